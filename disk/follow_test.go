package disk_test

import (
	"bytes"
	"slices"
	"testing"

	"saltern/api"
	"saltern/disk"
)

// P9.5

func TestWhatIsSyncedStays(t *testing.T) {
	c := chance(5)
	d := made(t, 12)
	for round := range 200 {
		n := c.below(20)
		for range n {
			write(t, d, c.below(12), c.row(c.below(513)))
		}
		was := all(t, d)
		synced(t, d, n)
		if !alike(all(t, d), was) {
			t.Fatalf("%d: Sync changed what a block holds", round)
		}
		d = lost(t, d, c.bools(c.below(5)), c.below(4)-1, c.below(600))
		if !alike(all(t, d), was) {
			t.Fatalf("%d: what was synced is lost", round)
		}
	}
}

func TestWhatIsSyncedStaysBesideOpenWrites(t *testing.T) {
	c := chance(6)
	for round := range 100 {
		d := made(t, 12)
		for i := range 12 {
			write(t, d, i, c.row(512))
		}
		synced(t, d, 12)
		was := all(t, d)
		for range 20 {
			write(t, d, c.below(6), c.row(512))
		}
		d = lost(t, d, c.bools(c.below(30)), c.below(22)-1, c.below(600))
		if !alike(all(t, d)[6:], was[6:]) {
			t.Fatalf("%d: what was synced is lost", round)
		}
	}
}

// P9.6

func TestBehindALossNothingElse(t *testing.T) {
	c := chance(7)
	d := made(t, 6)
	for round := range 200 {
		var may [6][][]byte
		for i, b := range all(t, d) {
			may[i] = append(may[i], b)
		}
		for range c.below(12) {
			i, b := c.below(6), c.row(c.below(513))
			write(t, d, i, b)
			may[i] = append(may[i], whole(b))
		}
		d = lost(t, d, c.bools(c.below(14)), c.below(14)-1, c.below(600))
		for i, b := range all(t, d) {
			for at, x := range b {
				if !slices.ContainsFunc(may[i], func(m []byte) bool { return m[at] == x }) {
					t.Fatalf("%d: block %d has %d at %d", round, i, x, at)
				}
			}
		}
	}
}

// P9.7

func TestReadTellsWhatWasWrittenLast(t *testing.T) {
	c := chance(8)
	d := made(t, 9)
	last := make([][]byte, 9)
	for i := range last {
		last[i] = whole(nil)
	}
	for step := range 3000 {
		i, b := c.below(9), c.row(c.below(513))
		write(t, d, i, b)
		last[i] = whole(b)
		if k := c.below(9); !bytes.Equal(read(t, d, k), last[k]) || !bytes.Equal(read(t, d, i), last[i]) {
			t.Fatalf("%d: another one", step)
		}
		switch c.below(40) {
		case 0:
			synced(t, d, d.Open())
		case 1:
			d = lost(t, d, slices.Repeat([]bool{true}, d.Open()), -1, 0)
		default:
			continue
		}
		if !alike(all(t, d), last) {
			t.Fatalf("%d: another one behind a sync or a loss", step)
		}
	}
}

// worded is a device by the chapter's words.
type worded struct {
	lasts [][]byte
	open  []wordedWrite
	fused bool
	fuse  int
}

type wordedWrite struct {
	i int
	b []byte
}

func (w *worded) holds(i int) []byte {
	b := w.lasts[i]
	for _, o := range w.open {
		if o.i == i {
			b = o.b
		}
	}
	return b
}

func (w *worded) out(i, n int) bool { return i < 0 || i > n-1 }

func (w *worded) dark() bool {
	if w.fused && w.fuse == 0 {
		return true
	}
	w.fuse--
	return false
}

func (w *worded) write(i int, b []byte) api.Errno {
	switch {
	case w.out(i, len(w.lasts)):
		return api.ErrRange
	case len(b) > 512:
		return api.ErrLong
	case w.dark():
		return api.ErrDark
	}
	w.open = append(w.open, wordedWrite{i, whole(b)})
	return api.OK
}

func (w *worded) sync() (int, api.Errno) {
	if w.dark() {
		return 0, api.ErrDark
	}
	n := len(w.open)
	for _, o := range w.open {
		w.lasts[o.i] = o.b
	}
	w.open = nil
	return n, api.OK
}

func (w *worded) rot(i, at int, mask byte) api.Errno {
	if w.out(i, len(w.lasts)) || w.out(at, 512) {
		return api.ErrRange
	}
	w.lasts[i] = slices.Clone(w.lasts[i])
	w.lasts[i][at] ^= mask
	for _, o := range w.open {
		if o.i == i {
			o.b[at] ^= mask
		}
	}
	return api.OK
}

func (w *worded) lose(keep []bool, place, at int) {
	for k, o := range w.open {
		n := 0
		if k < len(keep) && keep[k] {
			n = 512
		}
		if k == place {
			for n = at; n > 512; {
				n -= 513
			}
			n = max(n, 0)
		}
		w.lasts[o.i] = torn(w.lasts[o.i], o.b, n)
	}
	*w = worded{lasts: w.lasts}
}

func TestAgainstTheChaptersWords(t *testing.T) {
	for seed := range 30 {
		c := chance(seed)
		n := 4 + c.below(5)
		d, w := made(t, n), &worded{}
		for range n {
			w.lasts = append(w.lasts, whole(nil))
		}
		for step := range 600 {
			d = bothStep(t, &c, d, w)
			if d.Open() != len(w.open) || d.Blocks() != n || d.Down() {
				t.Fatalf("%d, %d: %d open, not %d", seed, step, d.Open(), len(w.open))
			}
			for i, b := range all(t, d) {
				if !bytes.Equal(b, w.holds(i)) {
					t.Fatalf("%d, %d: block %d", seed, step, i)
				}
			}
		}
	}
}

// bothStep does one thing, by chance, to both, and holds the answers against each other.
func bothStep(t *testing.T, c *chance, d *disk.Disk, w *worded) *disk.Disk {
	t.Helper()
	n := len(w.lasts)
	switch what := c.below(20); {
	case what < 10:
		i, b := c.below(n+2)-1, c.row(c.below(520))
		if e, want := d.Write(i, b), w.write(i, b); e != want {
			t.Fatalf("Write(%d, %d bytes): %d, not %d", i, len(b), e, want)
		}
	case what < 13:
		m, e := d.Sync()
		if k, want := w.sync(); m != k || e != want {
			t.Fatalf("Sync: %d, %d, not %d, %d", m, e, k, want)
		}
	case what < 17:
		i, at, mask := c.below(n+2)-1, c.below(514)-1, byte(c.below(256))
		if e, want := d.Rot(i, at, mask), w.rot(i, at, mask); e != want {
			t.Fatalf("Rot(%d, %d, %d): %d, not %d", i, at, mask, e, want)
		}
	case what < 18:
		k := c.below(9) - 2
		fused(t, d, k)
		w.fused, w.fuse = k >= 0, k
	default:
		keep, place, at := c.bools(c.below(2*len(w.open)+2)), c.below(len(w.open)+2)-1, c.below(1100)-20
		x := lost(t, d, keep, place, at)
		w.lose(keep, place, at)
		refuses(t, d, api.ErrDown)
		return x
	}
	return d
}
