package roll_test

import (
	"bytes"
	"slices"
	"testing"

	"saltern/api"
	"saltern/roll"
)

// P8.1

func TestCheck(t *testing.T) {
	for _, c := range confs() {
		if e := roll.Check(c); e != api.OK {
			t.Errorf("%v: %d", c, e)
		}
	}
	for _, c := range wrong() {
		if e := roll.Check(c); e != api.ErrRoll {
			t.Errorf("%v: %d", c, e)
		}
	}
	if api.ErrRoll != 80 {
		t.Errorf("ErrRoll is %d", api.ErrRoll)
	}
}

func TestCheckAroundTheEdges(t *testing.T) {
	for _, least := range []int{-1, 0, 1, 2, 4095, 4096, 4097} {
		for _, most := range []int{-1, 0, 1, 2, 4095, 4096, 4097} {
			for bits := -1; bits <= 21; bits++ {
				want := api.ErrRoll
				if 1 <= least && least <= most && most <= 4096 && 0 <= bits && bits <= 20 {
					want = api.OK
				}
				if e := roll.Check(conf(least, most, bits)); e != want {
					t.Errorf("%d, %d, %d: %d, not %d", least, most, bits, e, want)
				}
			}
		}
	}
}

func TestGearsThatWereReckonedApart(t *testing.T) {
	for _, c := range []struct {
		b    byte
		want uint64
	}{
		{0, 0xca009717f87d8879}, {1, 0x6c3247d3eded6346}, {'a', 0x94748389bcb65aee}, {127, 0xbd73cc18e7202e4d},
		{128, 0x754f8a3c3c645140}, {159, 0x000a98e629a4089a}, {254, 0xadf0a975723cd428}, {255, 0x7ae79830ce405c9a},
	} {
		if g := roll.Gear(c.b); g != c.want {
			t.Errorf("%d: %x, not %x", c.b, g, c.want)
		}
	}
	if h := roll.Hash(0, []byte("abc")); h != 0x3d94f0508a9dfd8c {
		t.Errorf("abc: %x", h)
	}
}

func TestGearByTheWords(t *testing.T) {
	seen := map[uint64]int{}
	for b := range 256 {
		g := roll.Gear(byte(b))
		if g != wordedGear(byte(b)) {
			t.Errorf("%d: %x", b, g)
		}
		if other, twice := seen[g]; twice {
			t.Errorf("%d and %d: %x", other, b, g)
		}
		seen[g] = b
	}
}

func TestHashByTheWords(t *testing.T) {
	for _, h := range []uint64{0, 1, 1 << 63, ^uint64(0), 0x0123456789abcdef} {
		if x := roll.Hash(h, nil); x != h {
			t.Errorf("%x with no bytes: %x", h, x)
		}
		for _, b := range rows() {
			if x := roll.Hash(h, b); x != wordedHash(h, b) {
				t.Errorf("%x with %d bytes: %x", h, len(b), x)
			}
		}
	}
}

func TestHashGoesOn(t *testing.T) {
	c := chance(1)
	b := c.row(200, 256)
	for n := range len(b) + 1 {
		if a, z := roll.Hash(roll.Hash(5, b[:n]), b[n:]), roll.Hash(5, b); a != z {
			t.Errorf("at %d: %x, not %x", n, a, z)
		}
	}
	// Each doubling drops the highest bit: behind 64 bytes nothing stays of what was ahead.
	if roll.Hash(5, b[:64]) != roll.Hash(0, b[:64]) || roll.Hash(5, b[:63]) == roll.Hash(0, b[:63]) {
		t.Error("what was ahead is forgotten behind another count than 64")
	}
}

// P8.2

func TestNextThatWasReckonedApart(t *testing.T) {
	for _, c := range []struct {
		c    api.RollConf
		b    []byte
		n    int
		ends bool
	}{
		{conf(1, 8, 3), nil, 0, false},
		{conf(1, 1, 20), []byte{0}, 1, true},
		{conf(1, 8, 0), []byte{0}, 1, true},
		{conf(2, 8, 0), []byte{0}, 1, false},
		// The gear of 159 begins with 12 bits 0 and a 1.
		{conf(1, 8, 12), []byte{159, 1, 2}, 1, true},
		{conf(1, 8, 12), []byte{159}, 1, true},
		{conf(1, 8, 13), []byte{159}, 1, false},
		{conf(1, 8, 13), []byte{159, 0}, 2, false},
		{conf(1, 1, 13), []byte{159, 0}, 1, true},
		{conf(2, 8, 12), []byte{159, 0}, 2, false}, // a byte too early
		// These three have 20 bits 0, and 19, and 21, and not sooner.
		{conf(1, 4096, 20), []byte{2, 43, 240, 0, 0}, 3, true},
		{conf(3, 4096, 20), []byte{2, 43, 240, 0, 0}, 3, true},
		{conf(4, 4096, 20), []byte{2, 43, 240, 0, 0}, 5, false},
		{conf(1, 4096, 20), []byte{26, 71, 244, 0, 0}, 5, false},
		{conf(1, 4096, 19), []byte{26, 71, 244, 0, 0}, 3, true},
		{conf(1, 4096, 20), []byte{8, 219, 5, 0, 0}, 3, true},
		{conf(1, 4, 20), []byte{26, 71, 244, 0, 0}, 4, true},
	} {
		if n, ends, e := roll.Next(c.c, c.b); n != c.n || ends != c.ends || e != api.OK {
			t.Errorf("%v, %v: %d, %v, %d, not %d, %v", c.c, c.b, n, ends, e, c.n, c.ends)
		}
	}
}

func TestNextByTheWords(t *testing.T) {
	for _, c := range confs() {
		for _, b := range rows() {
			for _, from := range []int{0, 1, len(b) / 3, len(b)} {
				b := b[min(from, len(b)):]
				wantN, wantEnds := wordedNext(c, b)
				if n, ends, e := roll.Next(c, b); n != wantN || ends != wantEnds || e != api.OK {
					t.Errorf("%v, %d bytes: %d, %v, %d, not %d, %v", c, len(b), n, ends, e, wantN, wantEnds)
				}
			}
		}
	}
}

func TestNextHeedsEndsAlone(t *testing.T) {
	for _, c := range confs() {
		for _, b := range rows() {
			n, ends, _ := roll.Next(c, b)
			if !ends {
				if n != len(b) {
					t.Errorf("%v: %d of %d bytes, and no end", c, n, len(b))
				}
				continue
			}
			// What stands behind the end changes nothing; a byte less, and there is no end.
			if m, ends, _ := roll.Next(c, b[:n]); m != n || !ends {
				t.Errorf("%v: %d, %v, not %d", c, m, ends, n)
			}
			if m, ends, _ := roll.Next(c, b[:n-1]); m != n-1 || ends {
				t.Errorf("%v: %d, %v, not %d, open", c, m, ends, n-1)
			}
		}
	}
}

func TestNextOfMoreThanAFile(t *testing.T) {
	b := make([]byte, 1<<20+1)
	if n, ends, e := roll.Next(conf(4096, 4096, 20), b); n != 4096 || !ends || e != api.OK {
		t.Errorf("%d, %v, %d", n, ends, e)
	}
}

func TestCutsOfTheExamples(t *testing.T) {
	for _, c := range []struct {
		c    api.RollConf
		n    int
		want []int
	}{
		{conf(2, 3, 0), 7, []int{2, 2, 2, 1}},
		{conf(1, 4, 20), 10, []int{4, 4, 2}},
		{conf(2, 3, 0), 0, nil},
		{conf(2, 3, 0), 6, []int{2, 2, 2}}, // nothing is left
		{conf(1, 1, 20), 3, []int{1, 1, 1}},
		{conf(1, 4, 20), 8, []int{4, 4}},
		{conf(4096, 4096, 0), 4096, []int{4096}},
		{conf(4096, 4096, 20), 4097, []int{4096, 1}},
		{conf(4096, 4096, 0), 4095, []int{4095}},
	} {
		b := bytes.Repeat([]byte("7"), c.n)
		if l, e := roll.Cuts(c.c, b); !slices.Equal(l, c.want) || e != api.OK {
			t.Errorf("%v, %d bytes: %v, %d, not %v", c.c, c.n, l, e, c.want)
		}
	}
}

func TestCutsByTheWords(t *testing.T) {
	for _, c := range confs() {
		for _, b := range rows() {
			want, _ := wordedChunks(c, b)
			if l, e := roll.Cuts(c, b); !slices.Equal(l, sizes(want)) || e != api.OK {
				t.Errorf("%v, %d bytes: %.60v, %d", c, len(b), l, e)
			}
		}
	}
}

// TestChunksOfLeastAndOfMost is there lest the rows above have no such chunks that end by their hash.
func TestChunksOfLeastAndOfMost(t *testing.T) {
	c := chance(3)
	s := conf(8, 24, 4)
	l, _ := roll.Cuts(s, c.row(20000, 256))
	count := map[int]int{}
	for _, n := range l[:len(l)-1] {
		count[n]++
	}
	for n := 8; n <= 24; n++ {
		if count[n] == 0 {
			t.Errorf("no chunk of %d bytes", n)
		}
	}
}

func TestAHashBeginsWithItsChunk(t *testing.T) {
	// Each of these three ends a chunk of its own; a hash that went on would not be 0 in 20 bits again.
	b := bytes.Repeat([]byte{2, 43, 240}, 100)
	if l, e := roll.Cuts(conf(1, 4096, 20), b); !slices.Equal(l, slices.Repeat([]int{3}, 100)) || e != api.OK {
		t.Errorf("%v, %d", l, e)
	}
}

func TestCutsOfAsMuchAsMayBe(t *testing.T) {
	c := chance(4)
	b := c.row(1<<20+1, 256)
	s := conf(256, 4096, 10)
	l, e := roll.Cuts(s, b[:1<<20])
	want, _ := wordedChunks(s, b[:1<<16])
	if e != api.OK || len(l) < len(want) || !slices.Equal(l[:len(want)-1], sizes(want[:len(want)-1])) {
		t.Errorf("%d chunks, %d", len(l), e)
	}
	sum := 0
	for _, n := range l {
		sum += n
	}
	if sum != 1<<20 {
		t.Errorf("%d bytes", sum)
	}
	if l, e := roll.Cuts(s, b); len(l) != 0 || e != api.ErrLong {
		t.Errorf("one more: %d chunks, %d", len(l), e)
	}
}

func TestWrongSettings(t *testing.T) {
	long := make([]byte, 1<<20+1)
	for _, c := range wrong() {
		for _, b := range [][]byte{nil, []byte("abc"), long} { // of Cuts' errors, that of settings is named first
			if n, ends, e := roll.Next(c, b); n != 0 || ends || e != api.ErrRoll {
				t.Errorf("Next(%v, %d bytes): %d, %v, %d", c, len(b), n, ends, e)
			}
			if l, e := roll.Cuts(c, b); len(l) != 0 || e != api.ErrRoll {
				t.Errorf("Cuts(%v, %d bytes): %v, %d", c, len(b), l, e)
			}
		}
		if k, e := roll.New(c); k != nil || e != api.ErrRoll {
			t.Errorf("New(%v): %v, %d", c, k, e)
		}
	}
}
