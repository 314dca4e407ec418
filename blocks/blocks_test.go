package blocks_test

import (
	"bytes"
	"slices"
	"testing"

	"saltern/api"
	"saltern/blocks"
	"saltern/disk"
)

// made is a device of 8 blocks, the block i of which begins with row[i].
func made(t *testing.T, row string) *disk.Disk {
	t.Helper()
	d, e := disk.New(8)
	ends(t, "New", e, api.OK)
	for i := range len(row) {
		ends(t, "Write", d.Write(i, []byte{row[i]}), api.OK)
	}
	_, e = d.Sync()
	ends(t, "Sync", e, api.OK)
	return d
}

func ends(t *testing.T, what string, e, want api.Errno) {
	t.Helper()
	if e != want {
		t.Fatalf("%s: %d, not %d", what, e, want)
	}
}

// holds asks for the first byte of each block, and for how many writes are open.
func holds(t *testing.T, what string, d *disk.Disk, want string, open int) {
	t.Helper()
	var row []byte
	for i := range d.Blocks() {
		b, e := d.Read(i)
		ends(t, "Read", e, api.OK)
		row = append(row, b[0])
	}
	if string(row) != want || d.Open() != open {
		t.Errorf("%s: %q, %d open, not %q, %d", what, row, d.Open(), want, open)
	}
}

// rowOf are blocks that begin with these bytes.
func rowOf(row string) []byte {
	var b []byte
	for i := range len(row) {
		b = append(b, row[i])
		b = append(b, make([]byte, 511)...)
	}
	return b
}

func fused(t *testing.T, d *disk.Disk, n int) {
	t.Helper()
	ends(t, "Fuse", d.Fuse(n), api.OK)
}

func TestRead(t *testing.T) {
	d := made(t, "abcdefgh")
	for _, c := range []struct {
		x    api.Extent
		want string
	}{{api.Extent{}, ""}, {api.Extent{At: 8, N: 0}, ""}, {api.Extent{At: 0, N: 8}, "abcdefgh"}, {api.Extent{At: 2, N: 3}, "cde"}, {api.Extent{At: 7, N: 1}, "h"}} {
		if b, e := blocks.Read(d, c.x); !bytes.Equal(b, rowOf(c.want)) || e != api.OK {
			t.Errorf("%v: %d bytes, %d", c.x, len(b), e)
		}
	}
	if b, e := blocks.Read(d, api.Extent{At: 6, N: 3}); b != nil || e != api.ErrRange {
		t.Errorf("beyond: %d bytes, %d", len(b), e)
	}
}

func TestWriteAndSettle(t *testing.T) {
	d := made(t, "abcdefgh")
	ends(t, "Write", blocks.Write(d, 2, rowOf("xyz")), api.OK)
	holds(t, "Write", d, "abxyzfgh", 3)
	ends(t, "Write", blocks.Write(d, 0, nil), api.OK)
	ends(t, "Settle", blocks.Settle(d, 0, nil), api.OK)
	holds(t, "of nothing", d, "abxyzfgh", 3)
	ends(t, "Settle", blocks.Settle(d, 6, rowOf("uv")), api.OK)
	holds(t, "Settle", d, "abxyzfuv", 0)
	fused(t, d, 1)
	ends(t, "Write", blocks.Write(d, 0, rowOf("12")), api.ErrDark)
	holds(t, "dark", d, "1bxyzfuv", 1)
	fused(t, d, 0)
	ends(t, "Settle", blocks.Settle(d, 0, rowOf("34")), api.ErrDark)
	fused(t, d, 2)
	ends(t, "Settle", blocks.Settle(d, 0, rowOf("34")), api.ErrDark)
	holds(t, "dark", d, "34xyzfuv", 3)
	ends(t, "Sync", blocks.Sync(d), api.ErrDark)
	fused(t, d, -1)
	ends(t, "Sync", blocks.Sync(d), api.OK)
	holds(t, "synced", d, "34xyzfuv", 0)
}

func TestWipe(t *testing.T) {
	row := []api.Extent{{At: 1, N: 3}, {At: 4, N: 0}, {At: 6, N: 1}}
	was, cleared := "ab\x00defgh", "a\x00\x00\x00ef\x00h"
	for n, want := range []string{was, "a\x00\x00defgh", "a\x00\x00\x00efgh", cleared, cleared} {
		d := made(t, was)
		fused(t, d, n)
		if n == 4 { // three writes and a sync
			ends(t, "Wipe", blocks.Wipe(d, row...), api.OK)
			holds(t, "cleared", d, want, 0)
			ends(t, "again", blocks.Wipe(d, row...), api.OK)
			continue
		}
		ends(t, "Wipe", blocks.Wipe(d, row...), api.ErrDark)
		holds(t, "dark", d, want, n)
	}
	d := made(t, was)
	fused(t, d, 0)
	ends(t, "of none", blocks.Wipe(d), api.OK)
	ends(t, "of a clear one", blocks.Wipe(d, api.Extent{At: 2, N: 1}), api.OK)
	ends(t, "beyond", blocks.Wipe(d, api.Extent{At: 8, N: 1}), api.ErrRange)
}

func TestClear(t *testing.T) {
	for _, n := range []int{0, 1, 3} {
		if b := blocks.Clear(n); !slices.Equal(b, make([]byte, 512*n)) {
			t.Errorf("%d: %d bytes", n, len(b))
		}
	}
}
