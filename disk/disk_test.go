package disk_test

import (
	"bytes"
	"math"
	"slices"
	"testing"

	"saltern/api"
	"saltern/disk"
)

// P9.1

func TestNewIsOfZeros(t *testing.T) {
	for _, n := range []int{4, 5, 100, 4095, 4096} {
		d := made(t, n)
		if d.Blocks() != n || d.Open() != 0 || d.Down() {
			t.Errorf("%d: %d blocks, %d open, down: %t", n, d.Blocks(), d.Open(), d.Down())
		}
		for i := range n {
			holds(t, d, i, nil)
		}
		if b, e := d.Read(n); len(b) != 0 || e != api.ErrRange {
			t.Errorf("Read(%d): %x, %d", n, b, e)
		}
	}
}

func TestNewOfAWrongSize(t *testing.T) {
	for _, n := range []int{3, 4097, 2, 1, 0, -1, -4, 1 << 20, math.MaxInt, math.MinInt} {
		if d, e := disk.New(n); d != nil || e != api.ErrDisk {
			t.Errorf("New(%d): %v, %d", n, d, e)
		}
	}
}

func TestOpenCounts(t *testing.T) {
	d := made(t, 4)
	for k, i := range []int{3, 0, 3, 3, 1} {
		write(t, d, i, []byte{byte(k)})
		if d.Open() != k+1 {
			t.Errorf("Open: %d behind %d writes", d.Open(), k+1)
		}
	}
	synced(t, d, 5)
	if d.Open() != 0 {
		t.Errorf("Open: %d behind Sync", d.Open())
	}
}

func TestTwoDevicesAreApart(t *testing.T) {
	a, b := made(t, 4), made(t, 4)
	write(t, a, 1, []byte("a"))
	synced(t, a, 1)
	write(t, a, 2, []byte("a"))
	fused(t, a, 0)
	holds(t, b, 1, nil)
	holds(t, b, 2, nil)
	write(t, b, 2, []byte("b"))
	if a.Open() != 1 || b.Open() != 1 {
		t.Errorf("Open: %d, %d", a.Open(), b.Open())
	}
	lost(t, a, nil, -1, 0)
	if b.Down() {
		t.Error("the other one is down, too")
	}
	holds(t, b, 2, []byte("b"))
}

func TestNobodysDevice(t *testing.T) {
	for _, d := range nobodys() {
		refuses(t, d, api.ErrNil)
		if d.Blocks() != 0 || d.Down() {
			t.Errorf("%d blocks, down: %t", d.Blocks(), d.Down())
		}
	}
}

func TestDownRefusesAll(t *testing.T) {
	for _, open := range []int{0, 3} {
		for _, fuse := range []int{-1, 0, 1000} {
			d := made(t, 9)
			write(t, d, 1, []byte("one"))
			synced(t, d, 1)
			for k := range open {
				write(t, d, k, []byte("open"))
			}
			fused(t, d, fuse)
			x := lost(t, d, nil, -1, 0)
			refuses(t, d, api.ErrDown)
			if d.Blocks() != 9 || !d.Down() {
				t.Errorf("the elder: %d blocks, down: %t", d.Blocks(), d.Down())
			}
			if x.Blocks() != 9 || x.Down() || x.Open() != 0 {
				t.Errorf("the new: %d blocks, %d open, down: %t", x.Blocks(), x.Open(), x.Down())
			}
			holds(t, x, 1, []byte("one"))
		}
	}
}

func TestACopyIsTheSameDevice(t *testing.T) {
	d := made(t, 4)
	c := *d
	write(t, d, 1, []byte("one"))
	holds(t, &c, 1, []byte("one"))
	write(t, &c, 1, []byte("two"))
	synced(t, d, 2)
	x := lost(t, &c, nil, -1, 0)
	refuses(t, d, api.ErrDown)
	holds(t, x, 1, []byte("two"))
}

// P9.2

func TestZerosStandBehindWhatIsWritten(t *testing.T) {
	c := chance(1)
	for _, n := range []int{0, 1, 3, 255, 511, 512} {
		for _, sync := range []bool{false, true} {
			d := made(t, 4)
			write(t, d, 2, filled(0xff))
			if sync {
				synced(t, d, 1)
			}
			b := c.row(n)
			write(t, d, 2, b)
			holds(t, d, 2, b)
			d.Sync()
			holds(t, d, 2, b)
			holds(t, d, 1, nil)
			holds(t, d, 3, nil)
		}
	}
}

func TestNilAndNoBytesAreTheSame(t *testing.T) {
	for _, b := range [][]byte{nil, {}, make([]byte, 512)} {
		d := made(t, 4)
		write(t, d, 0, filled(7))
		synced(t, d, 1)
		write(t, d, 0, b)
		if d.Open() != 1 {
			t.Errorf("Open: %d", d.Open())
		}
		holds(t, d, 0, nil)
		synced(t, d, 1)
		holds(t, d, 0, nil)
		holds(t, lost(t, d, nil, -1, 0), 0, nil)
	}
}

func TestTooLongAWriteChangesNothing(t *testing.T) {
	for _, n := range []int{513, 514, 1024, 1 << 20} {
		d := made(t, 4)
		write(t, d, 1, []byte("one"))
		fused(t, d, 2)
		if e := d.Write(1, make([]byte, n)); e != api.ErrLong {
			t.Errorf("%d bytes: %d", n, e)
		}
		if d.Open() != 1 {
			t.Errorf("Open: %d", d.Open())
		}
		holds(t, d, 1, []byte("one"))
		synced(t, d, 1)
		write(t, d, 1, nil)
	}
}

func TestFirstAndLastBlock(t *testing.T) {
	for _, n := range []int{4, 5, 4096} {
		d := made(t, n)
		write(t, d, 0, []byte("first"))
		write(t, d, n-1, []byte("last"))
		holds(t, d, 0, []byte("first"))
		holds(t, d, n-1, []byte("last"))
		synced(t, d, 2)
		rotted(t, d, 0, 0, 1)
		rotted(t, d, n-1, 511, 1)
		holds(t, d, 0, []byte("girst"))
		holds(t, d, n-1, append(whole([]byte("last"))[:511], 1))
		holds(t, d, 1, nil)
		holds(t, d, n-2, nil)
	}
}

func TestNoBlocksNumber(t *testing.T) {
	for _, n := range []int{4, 4096} {
		d := made(t, n)
		fused(t, d, 1)
		for _, i := range outside(n) {
			if b, e := d.Read(i); len(b) != 0 || e != api.ErrRange {
				t.Errorf("Read(%d): %x, %d", i, b, e)
			}
			if e := d.Write(i, []byte("abc")); e != api.ErrRange {
				t.Errorf("Write(%d): %d", i, e)
			}
			if e := d.Rot(i, 0, 1); e != api.ErrRange {
				t.Errorf("Rot(%d): %d", i, e)
			}
		}
		if d.Open() != 0 {
			t.Errorf("Open: %d", d.Open())
		}
		synced(t, d, 0)
		for i := range n {
			holds(t, d, i, nil)
		}
	}
}

func TestABlockThatIsWrittenSeveralTimes(t *testing.T) {
	d := made(t, 4)
	for _, s := range []string{"one", "two and more", "three", "", "five"} {
		write(t, d, 3, []byte(s))
		holds(t, d, 3, []byte(s))
	}
	write(t, d, 2, []byte("other"))
	holds(t, d, 3, []byte("five"))
	synced(t, d, 6)
	holds(t, d, 3, []byte("five"))
	holds(t, d, 2, []byte("other"))
	write(t, d, 3, []byte("six"))
	holds(t, d, 3, []byte("six"))
	synced(t, d, 1)
	holds(t, d, 3, []byte("six"))
}

func TestSyncTellsHowManyWereOpen(t *testing.T) {
	d := made(t, 8)
	synced(t, d, 0)
	for _, n := range []int{1, 2, 7, 30, 0} {
		for k := range n {
			write(t, d, k%8, []byte{byte(k)})
		}
		synced(t, d, n)
		synced(t, d, 0)
	}
}

func TestMostOpenWrites(t *testing.T) {
	d := made(t, 4)
	for k := range 65536 {
		write(t, d, k%3, []byte{byte(k), byte(k >> 8)})
	}
	for _, fuse := range []int{-1, 1, 0} {
		fused(t, d, fuse)
		if e := d.Write(3, []byte("one more")); e != api.ErrMany {
			t.Errorf("with a fuse of %d: %d", fuse, e)
		}
		if e := d.Write(3, make([]byte, 513)); e != api.ErrLong {
			t.Errorf("too long a one, with a fuse of %d: %d", fuse, e)
		}
		if e := d.Write(4, make([]byte, 513)); e != api.ErrRange {
			t.Errorf("outside, with a fuse of %d: %d", fuse, e)
		}
	}
	if d.Open() != 65536 {
		t.Errorf("Open: %d", d.Open())
	}
	holds(t, d, 0, []byte{0xff, 0xff})
	holds(t, d, 2, []byte{0xfe, 0xff})
	holds(t, d, 3, nil)
	fused(t, d, 2)
	synced(t, d, 65536)
	write(t, d, 3, []byte("one more"))
	holds(t, d, 3, []byte("one more"))
	holds(t, d, 0, []byte{0xff, 0xff})
}

func TestMostOpenWritesAreLost(t *testing.T) {
	for _, c := range []struct {
		keep []bool
		torn int
		want []byte
	}{
		{nil, -1, nil},
		{slices.Repeat([]bool{true}, 65535), -1, []byte{0xfe, 0xff}},
		{slices.Repeat([]bool{true}, 65536), -1, []byte{0xff, 0xff}},
		{slices.Repeat([]bool{true}, 65537), 65536, []byte{0xff, 0xff}},
		{slices.Repeat([]bool{true}, 65535), 65535, []byte{0xff, 0xff}},
	} {
		d := made(t, 4)
		for k := range 65536 {
			write(t, d, 1, []byte{byte(k), byte(k >> 8)})
		}
		holds(t, lost(t, d, c.keep, c.torn, 2), 1, c.want)
	}
}

func TestAFuseOfZero(t *testing.T) {
	d := made(t, 4)
	write(t, d, 1, []byte("one"))
	fused(t, d, 0)
	for range 3 {
		if e := d.Write(1, []byte("two")); e != api.ErrDark {
			t.Errorf("Write: %d", e)
		}
		if n, e := d.Sync(); n != 0 || e != api.ErrDark {
			t.Errorf("Sync: %d, %d", n, e)
		}
	}
	if d.Open() != 1 || d.Down() || d.Blocks() != 4 {
		t.Errorf("%d open, down: %t, %d blocks", d.Open(), d.Down(), d.Blocks())
	}
	holds(t, d, 1, []byte("one"))
	rotted(t, d, 1, 0, 1)
	holds(t, d, 1, []byte("nne"))
	holds(t, lost(t, d, nil, -1, 0), 1, []byte{1})
}

func TestAFuseOfMore(t *testing.T) {
	for _, n := range []int{1, 2, 3, 10} {
		for first := range 2 {
			d := made(t, 4)
			fused(t, d, n)
			for k := range n {
				if k%2 == first {
					write(t, d, k%4, []byte{1})
				} else {
					synced(t, d, min(k, 1))
				}
			}
			if e := d.Write(0, nil); e != api.ErrDark {
				t.Errorf("%d: Write: %d", n, e)
			}
			if _, e := d.Sync(); e != api.ErrDark {
				t.Errorf("%d: Sync: %d", n, e)
			}
		}
	}
}

func TestAFuseThatIsTakenOff(t *testing.T) {
	for _, off := range []int{-1, -2, -513, math.MinInt} {
		for _, n := range []int{0, 1, 5} {
			d := made(t, 4)
			write(t, d, 0, []byte("a"))
			fused(t, d, n)
			fused(t, d, off)
			for range 10 {
				write(t, d, 1, []byte("b"))
			}
			synced(t, d, 11)
			synced(t, d, 0)
		}
	}
}

func TestAFuseThatIsSetAnew(t *testing.T) {
	d := made(t, 4)
	fused(t, d, 5)
	fused(t, d, 1)
	write(t, d, 0, nil)
	if e := d.Write(0, nil); e != api.ErrDark {
		t.Errorf("Write: %d", e)
	}
	fused(t, d, 2)
	synced(t, d, 1)
	write(t, d, 0, nil)
	if _, e := d.Sync(); e != api.ErrDark {
		t.Errorf("Sync: %d", e)
	}
	fused(t, d, math.MaxInt)
	synced(t, d, 1)
}

func TestWhatTakesNothingOffTheFuse(t *testing.T) {
	d := made(t, 4)
	fused(t, d, 2)
	for range 5 {
		holds(t, d, 1, nil)
		rotted(t, d, 1, 0, 0)
		d.Read(-1)
		d.Open()
		d.Blocks()
		d.Down()
		d.Rot(4, 0, 1)
		d.Rot(0, 512, 1)
		d.Write(-1, nil)
		d.Write(4, nil)
		d.Write(0, make([]byte, 513))
	}
	write(t, d, 1, []byte("a"))
	synced(t, d, 1)
	if e := d.Write(1, nil); e != api.ErrDark {
		t.Errorf("Write: %d", e)
	}
}

func TestManyOpenTakesNothingOffTheFuse(t *testing.T) {
	d := made(t, 4)
	for range 65536 {
		write(t, d, 1, nil)
	}
	fused(t, d, 1)
	if e := d.Write(1, nil); e != api.ErrMany {
		t.Errorf("Write: %d", e)
	}
	synced(t, d, 65536)
}

func TestBehindALossNoFuseIsSet(t *testing.T) {
	for _, n := range []int{0, 1, -1} {
		d := made(t, 4)
		fused(t, d, n)
		x := lost(t, d, nil, -1, 0)
		for range 5 {
			write(t, x, 0, nil)
			synced(t, x, 1)
		}
	}
}

func TestWhichErrorIsToldFirst(t *testing.T) {
	d := made(t, 4)
	fused(t, d, 0)
	for _, c := range []struct {
		told, want api.Errno
	}{
		{d.Write(4, make([]byte, 513)), api.ErrRange},
		{d.Write(-1, nil), api.ErrRange},
		{d.Write(3, make([]byte, 513)), api.ErrLong},
		{d.Write(3, make([]byte, 512)), api.ErrDark},
		{d.Rot(4, 512, 1), api.ErrRange},
		{d.Rot(0, -1, 1), api.ErrRange},
	} {
		if c.told != c.want {
			t.Errorf("%d, not %d", c.told, c.want)
		}
	}
}

func TestWhatIsHandedInIsNeitherChangedNorKept(t *testing.T) {
	d := made(t, 4)
	b := filled('a')
	write(t, d, 1, b)
	if !bytes.Equal(b, filled('a')) {
		t.Error("Write changed it")
	}
	b[0] = 'x'
	holds(t, d, 1, filled('a'))
	rotted(t, d, 1, 1, 1)
	if !bytes.Equal(b[1:], filled('a')[1:]) {
		t.Error("Rot changed it")
	}
	rotted(t, d, 1, 1, 1)
	synced(t, d, 1)
	b[0] = 'y'
	holds(t, d, 1, filled('a'))
}

func TestAnAnswerIsNewMemory(t *testing.T) {
	d := made(t, 4)
	write(t, d, 1, []byte("open"))
	write(t, d, 2, []byte("lasts"))
	synced(t, d, 2)
	write(t, d, 1, []byte("open"))
	for i, s := range []string{"", "open", "lasts", ""} {
		a, b := read(t, d, i), read(t, d, i)
		clear(a)
		a[0] = 'x'
		if !bytes.Equal(b, whole([]byte(s))) {
			t.Errorf("two answers share memory: %x", b)
		}
		holds(t, d, i, []byte(s))
		_ = append(b, 'x')
		holds(t, d, (i+1)%4, []byte([]string{"open", "lasts", "", ""}[i]))
	}
	a := read(t, d, 1)
	rotted(t, d, 1, 0, 1)
	if !bytes.Equal(a, whole([]byte("open"))) {
		t.Error("Rot changed an answer")
	}
}
