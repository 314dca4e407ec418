package disk_test

import (
	"math"
	"slices"
	"testing"

	"saltern/api"
	"saltern/disk"
)

// P9.3

func TestTheChaptersExample(t *testing.T) {
	b := filled('w')
	d := made(t, 4)
	write(t, d, 3, b)
	holds(t, lost(t, d, nil, 0, 5), 3, []byte("wwwww"))
	refuses(t, d, api.ErrDown)
	d = made(t, 4)
	write(t, d, 3, b)
	holds(t, lost(t, d, []bool{true}, -1, 0), 3, b)
	refuses(t, d, api.ErrDown)
}

// five is a device of which each block lasts, with five open writes, the blocks of which are 0, 1, 1, 2, 0.
func five(t *testing.T) *disk.Disk {
	t.Helper()
	d := made(t, 4)
	for i := range 4 {
		write(t, d, i, filled(byte('0'+i)))
	}
	synced(t, d, 4)
	for k, i := range []int{0, 1, 1, 2, 0} {
		write(t, d, i, filled(byte('a'+k)))
	}
	return d
}

func TestWhichWritesAreKept(t *testing.T) {
	for _, c := range []struct {
		keep []bool
		want string
	}{
		{nil, "0123"},
		{[]bool{}, "0123"},
		{[]bool{false, false, false, false, false}, "0123"},
		{[]bool{true}, "a123"},
		{[]bool{true, true}, "ab23"},
		{[]bool{true, true, true}, "ac23"},
		{[]bool{false, true, false, true}, "0bd3"},
		{[]bool{true, true, true, true, true}, "ecd3"},
		{[]bool{false, false, false, false, true}, "e123"},
		{[]bool{true, false, true, true, false}, "acd3"},
		{[]bool{true, true, true, true, true, true, true, true}, "ecd3"},
		{[]bool{false, false, false, false, false, true, true}, "0123"},
	} {
		for _, torn := range outside(5) {
			keep := slices.Clone(c.keep)
			x := lost(t, five(t), keep, torn, 100)
			for i := range 4 {
				holds(t, x, i, filled(c.want[i]))
			}
			if !slices.Equal(keep, c.keep) {
				t.Error("keep is changed")
			}
		}
	}
}

func TestHowManyBytesOfATornWrite(t *testing.T) {
	for _, c := range []struct{ at, want int }{
		{0, 0}, {1, 1}, {5, 5}, {511, 511}, {512, 512}, {513, 0}, {514, 1}, {518, 5}, {1025, 512}, {1026, 0}, {1027, 1},
		{-1, 0}, {-5, 0}, {-512, 0}, {-513, 0}, {-514, 0}, {math.MinInt, 0},
		{math.MaxInt, int(uint64(math.MaxInt) % 513)},
	} {
		for _, keep := range [][]bool{nil, {true, false, true}, {false, true}, {true, true, true, true, true}} {
			d := made(t, 4)
			write(t, d, 2, filled('u'))
			synced(t, d, 1)
			write(t, d, 2, filled('o'))
			holds(t, lost(t, d, keep, 0, c.at), 2, torn(filled('u'), filled('o'), c.want))
		}
	}
}

func TestATornWriteIsDoneInOrder(t *testing.T) {
	for _, c := range []struct {
		keep []bool
		torn int
		want [4][]byte
	}{
		// The block 0 has the open writes a and e, 1 has b and c, 2 has d.
		{nil, 0, [4][]byte{torn(filled('0'), filled('a'), 7), filled('1'), filled('2'), filled('3')}},
		{[]bool{true}, 0, [4][]byte{torn(filled('0'), filled('a'), 7), filled('1'), filled('2'), filled('3')}},
		{[]bool{false, true}, 2, [4][]byte{filled('0'), torn(filled('b'), filled('c'), 7), filled('2'), filled('3')}},
		{[]bool{false, true, true}, 1, [4][]byte{filled('0'), filled('c'), filled('2'), filled('3')}},
		{[]bool{false, true, false}, 1, [4][]byte{filled('0'), torn(filled('1'), filled('b'), 7), filled('2'), filled('3')}},
		{[]bool{true, true, true, true, true}, 4, [4][]byte{torn(filled('a'), filled('e'), 7), filled('c'), filled('d'), filled('3')}},
		{[]bool{true, false, false, true}, 4, [4][]byte{torn(filled('a'), filled('e'), 7), filled('1'), filled('d'), filled('3')}},
		{nil, 4, [4][]byte{torn(filled('0'), filled('e'), 7), filled('1'), filled('2'), filled('3')}},
		{nil, 3, [4][]byte{filled('0'), filled('1'), torn(filled('2'), filled('d'), 7), filled('3')}},
	} {
		x := lost(t, five(t), c.keep, c.torn, 7)
		for i, want := range c.want {
			holds(t, x, i, want)
		}
	}
}

func TestZerosOfAWriteAreTornToo(t *testing.T) {
	for _, c := range []struct {
		at   int
		want string
	}{
		{0, "uuuuuuu"}, {2, "abuuuuu"}, {3, "abcuuuu"}, {5, "abc\x00\x00uu"}, {512, "abc"},
	} {
		d := made(t, 4)
		write(t, d, 1, []byte("uuuuuuu"))
		synced(t, d, 1)
		write(t, d, 1, []byte("abc"))
		holds(t, lost(t, d, nil, 0, c.at), 1, []byte(c.want))
	}
}

func TestZerosThatAreKept(t *testing.T) {
	d := made(t, 4)
	write(t, d, 1, filled('u'))
	synced(t, d, 1)
	write(t, d, 1, nil)
	write(t, d, 1, []byte("again"))
	x := lost(t, d, []bool{true}, 1, 2)
	holds(t, x, 1, []byte("ag"))
}

func TestBehindALossAllLasts(t *testing.T) {
	x := lost(t, five(t), []bool{true, true, true, true, true}, 4, 7)
	was := all(t, x)
	if x.Open() != 0 {
		t.Errorf("Open: %d", x.Open())
	}
	synced(t, x, 0)
	for range 3 {
		x = lost(t, x, nil, 0, 3)
		if !alike(all(t, x), was) {
			t.Error("another loss took something")
		}
	}
}

func TestALossOfNothingOpen(t *testing.T) {
	d := made(t, 4)
	write(t, d, 2, []byte("two"))
	synced(t, d, 1)
	for _, torn := range []int{-1, 0, 1, math.MaxInt, math.MinInt} {
		d = lost(t, d, []bool{true, true}, torn, 5)
		holds(t, d, 2, []byte("two"))
		holds(t, d, 0, nil)
	}
}

func TestTheNewDeviceGoesOnAlone(t *testing.T) {
	d := five(t)
	x := lost(t, d, []bool{true}, -1, 0)
	write(t, x, 0, []byte("new"))
	synced(t, x, 1)
	write(t, x, 1, []byte("newer"))
	refuses(t, d, api.ErrDown)
	if d.Open() != 0 || x.Open() != 1 {
		t.Errorf("Open: %d, %d", d.Open(), x.Open())
	}
	holds(t, x, 0, []byte("new"))
	y := lost(t, x, []bool{true}, -1, 0)
	holds(t, y, 0, []byte("new"))
	holds(t, y, 1, []byte("newer"))
	holds(t, y, 2, filled('2'))
	refuses(t, x, api.ErrDown)
}

// P9.4

func TestRotOfWhatLasts(t *testing.T) {
	for _, at := range []int{0, 1, 255, 510, 511} {
		for _, mask := range []byte{0, 1, 0x80, 0xff, 'a'} {
			d := made(t, 4)
			write(t, d, 1, filled('a'))
			synced(t, d, 1)
			want := filled('a')
			want[at] ^= mask
			rotted(t, d, 1, at, mask)
			holds(t, d, 1, want)
			holds(t, d, 0, nil)
			holds(t, d, 2, nil)
			d = lost(t, d, nil, -1, 0)
			holds(t, d, 1, want)
			rotted(t, d, 1, at, mask)
			holds(t, d, 1, filled('a'))
		}
	}
}

func TestRotOfZeros(t *testing.T) {
	d := made(t, 4)
	rotted(t, d, 3, 511, 0x10)
	holds(t, d, 3, append(make([]byte, 511), 0x10))
	if d.Open() != 0 {
		t.Errorf("Open: %d", d.Open())
	}
	d = lost(t, d, nil, -1, 0)
	holds(t, d, 3, append(make([]byte, 511), 0x10))
	rotted(t, d, 3, 511, 0x10)
	holds(t, d, 3, nil)
}

func TestRotOfOpenWrites(t *testing.T) {
	for _, c := range []struct {
		keep []bool
		want string
	}{
		{nil, "xero"},
		{[]bool{true}, "mne"},
		{[]bool{true, true, true}, "vwo"},
		{[]bool{true, true, true, true}, "three"},
	} {
		d := made(t, 4)
		write(t, d, 1, []byte("zero"))
		synced(t, d, 1)
		write(t, d, 1, []byte("one"))
		write(t, d, 2, []byte("other"))
		write(t, d, 1, []byte("two"))
		rotted(t, d, 1, 0, 2)
		holds(t, d, 1, []byte("vwo"))
		holds(t, d, 2, []byte("other"))
		// What is written behind it has not rotted.
		write(t, d, 1, []byte("three"))
		holds(t, d, 1, []byte("three"))
		if d.Open() != 4 {
			t.Errorf("Open: %d", d.Open())
		}
		holds(t, lost(t, d, c.keep, -1, 0), 1, []byte(c.want))
	}
}

func TestRotThatIsSynced(t *testing.T) {
	d := made(t, 4)
	write(t, d, 1, []byte("one"))
	rotted(t, d, 1, 2, 4)
	rotted(t, d, 1, 2, 1)
	holds(t, d, 1, []byte{'o', 'n', 'e' ^ 5})
	synced(t, d, 1)
	holds(t, d, 1, []byte{'o', 'n', 'e' ^ 5})
	write(t, d, 1, []byte("one"))
	holds(t, d, 1, []byte("one"))
}

func TestRotOfAWriteThatIsTorn(t *testing.T) {
	for n, want := range []string{"acb", "fcb", "ffb", "ffa"} {
		d := made(t, 4)
		write(t, d, 1, []byte("abb"))
		synced(t, d, 1)
		write(t, d, 1, []byte("fga"))
		rotted(t, d, 1, 1, 1)
		holds(t, lost(t, d, nil, 0, n), 1, []byte(want))
	}
}

func TestRotOutside(t *testing.T) {
	d := made(t, 4)
	write(t, d, 1, filled('a'))
	synced(t, d, 1)
	write(t, d, 2, filled('b'))
	for _, at := range outside(512) {
		for i := range 4 {
			if e := d.Rot(i, at, 0xff); e != api.ErrRange {
				t.Errorf("Rot(%d, %d): %d", i, at, e)
			}
		}
	}
	for _, i := range outside(4) {
		for _, at := range []int{0, 511, -1, 512} {
			if e := d.Rot(i, at, 0xff); e != api.ErrRange {
				t.Errorf("Rot(%d, %d): %d", i, at, e)
			}
		}
	}
	if want := [][]byte{whole(nil), filled('a'), filled('b'), whole(nil)}; !alike(all(t, d), want) {
		t.Error("something changed")
	}
}
