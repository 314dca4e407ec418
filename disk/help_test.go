package disk_test

import (
	"bytes"
	"math"
	"slices"
	"testing"

	"saltern/api"
	"saltern/disk"
)

// chance is numbers without a pattern, always the same ones.
type chance uint64

func (c *chance) below(n int) int {
	*c = *c*6364136223846793005 + 1442695040888963407
	return int(uint64(*c)>>33) % n
}

// row is n bytes without a pattern.
func (c *chance) row(n int) []byte {
	b := make([]byte, n)
	for i := range b {
		b[i] = byte(c.below(256))
	}
	return b
}

func (c *chance) bools(n int) []bool {
	l := make([]bool, n)
	for i := range l {
		l[i] = c.below(2) == 0
	}
	return l
}

// filled is a block of one byte.
func filled(x byte) []byte { return bytes.Repeat([]byte{x}, 512) }

// whole is a block of b and zeros behind it.
func whole(b []byte) []byte { return append(slices.Clone(b), make([]byte, 512-len(b))...) }

// torn is a block of which the first n bytes are over's.
func torn(under, over []byte, n int) []byte { return slices.Concat(over[:n], under[n:]) }

func made(t *testing.T, blocks int) *disk.Disk {
	t.Helper()
	d, e := disk.New(blocks)
	if e != api.OK || d == nil {
		t.Fatalf("New(%d): %v, %d", blocks, d, e)
	}
	return d
}

func read(t *testing.T, d *disk.Disk, i int) []byte {
	t.Helper()
	b, e := d.Read(i)
	if e != api.OK || len(b) != 512 {
		t.Fatalf("Read(%d): %d bytes, %d", i, len(b), e)
	}
	return b
}

func write(t *testing.T, d *disk.Disk, i int, b []byte) {
	t.Helper()
	if e := d.Write(i, b); e != api.OK {
		t.Fatalf("Write(%d, %d bytes): %d", i, len(b), e)
	}
}

func synced(t *testing.T, d *disk.Disk, want int) {
	t.Helper()
	if n, e := d.Sync(); n != want || e != api.OK {
		t.Fatalf("Sync: %d, %d, not %d", n, e, want)
	}
}

func fused(t *testing.T, d *disk.Disk, n int) {
	t.Helper()
	if e := d.Fuse(n); e != api.OK {
		t.Fatalf("Fuse(%d): %d", n, e)
	}
}

func rotted(t *testing.T, d *disk.Disk, i, at int, mask byte) {
	t.Helper()
	if e := d.Rot(i, at, mask); e != api.OK {
		t.Fatalf("Rot(%d, %d, %d): %d", i, at, mask, e)
	}
}

func lost(t *testing.T, d *disk.Disk, keep []bool, torn, at int) *disk.Disk {
	t.Helper()
	x, e := d.Lose(keep, torn, at)
	if e != api.OK || x == nil || x == d {
		t.Fatalf("Lose: %v, %d", x, e)
	}
	return x
}

func holds(t *testing.T, d *disk.Disk, i int, want []byte) {
	t.Helper()
	if b := read(t, d, i); !bytes.Equal(b, whole(want)) {
		t.Errorf("block %d holds %x, not %x", i, b, want)
	}
}

// all is what all blocks hold.
func all(t *testing.T, d *disk.Disk) [][]byte {
	t.Helper()
	var l [][]byte
	for i := range d.Blocks() {
		l = append(l, read(t, d, i))
	}
	return l
}

func alike(a, b [][]byte) bool { return slices.EqualFunc(a, b, bytes.Equal) }

// nobodys are devices that neither New nor Lose made.
func nobodys() []*disk.Disk { return []*disk.Disk{nil, {}, new(disk.Disk)} }

// outside are no numbers of n things.
func outside(n int) []int { return []int{-1, n, n + 1, -n, math.MinInt, math.MaxInt} }

// refuses asks for an error of each call that has one, with arguments that are right and that are wrong.
func refuses(t *testing.T, d *disk.Disk, want api.Errno) {
	t.Helper()
	for _, i := range []int{0, 1, -1, 4096, math.MaxInt, math.MinInt} {
		if b, e := d.Read(i); len(b) != 0 || e != want {
			t.Errorf("Read(%d): %x, %d", i, b, e)
		}
		for _, b := range [][]byte{nil, []byte("abc"), make([]byte, 513)} {
			if e := d.Write(i, b); e != want {
				t.Errorf("Write(%d, %d bytes): %d", i, len(b), e)
			}
		}
		for _, at := range []int{0, 511, -1, 512} {
			if e := d.Rot(i, at, 1); e != want {
				t.Errorf("Rot(%d, %d): %d", i, at, e)
			}
		}
	}
	if n, e := d.Sync(); n != 0 || e != want {
		t.Errorf("Sync: %d, %d", n, e)
	}
	for _, n := range []int{-1, 0, 1} {
		if e := d.Fuse(n); e != want {
			t.Errorf("Fuse(%d): %d", n, e)
		}
	}
	for _, keep := range [][]bool{nil, {true, false}} {
		if x, e := d.Lose(keep, 0, 5); x != nil || e != want {
			t.Errorf("Lose: %v, %d", x, e)
		}
	}
	if n := d.Open(); n != 0 {
		t.Errorf("Open: %d", n)
	}
}
