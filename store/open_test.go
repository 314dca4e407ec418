package store_test

import (
	"bytes"
	"math"
	"testing"

	"saltern/api"
	"saltern/disk"
	"saltern/store"
)

// P12.1

// opening is a task: Open of an image.
func opening(t *testing.T, m image, x api.Extent) (*disk.Disk, func() api.Errno) {
	t.Helper()
	d := m.device(t)
	return d, func() api.Errno {
		s, e := store.Open(d, x)
		if (s == nil) != (e != api.OK) {
			t.Errorf("Open: %v beside %d", s, e)
		}
		return e
	}
}

func TestOpenOfZeros(t *testing.T) {
	for _, c := range []struct {
		blocks int
		x      api.Extent
	}{
		{4, api.Extent{At: 0, N: 4}},
		{4, api.Extent{At: 0, N: 1}},
		{4, api.Extent{At: 3, N: 1}},
		{4, api.Extent{At: 1, N: 2}},
		{4096, api.Extent{At: 0, N: 4096}},
		{4096, api.Extent{At: 4095, N: 1}},
	} {
		d := zeros(c.blocks).device(t)
		fused(t, d, 0)
		tells(t, "zeros", opened(t, d, c.x), nil, c.x.N)
	}
}

func TestOpenOfOneBlock(t *testing.T) {
	b := []byte("one")
	for at := range 4 {
		d := zeros(4).device(t)
		x := api.Extent{At: at, N: 1}
		s := opened(t, d, x)
		put(t, s, b)
		if !alike(held(t, d), zeros(4).with(at, packed(t, b))) {
			t.Errorf("%d: it lies elsewhere", at)
		}
		putFails(t, "a second one", s, []byte("two"), api.ErrFull)
		s = opened(t, d, x)
		tells(t, "anew", s, rising(b), 0)
		got(t, "anew", s, b)
	}
}

func TestExtentsThatDoNotLie(t *testing.T) {
	for _, n := range []int{4, 9, 4096} {
		m := zeros(n).with(0, bytes.Repeat([]byte("junk"), 128*n))
		d := m.device(t)
		down := m.device(t)
		lost(t, down, way{})
		for _, x := range []api.Extent{
			{}, {At: 0, N: 0}, {At: 1, N: 0}, {At: -1, N: 1}, {At: -1, N: n}, {At: 0, N: -1}, {At: 0, N: n + 1}, {At: n, N: 1}, {At: n - 1, N: 2}, {At: n, N: 0},
			{At: math.MaxInt, N: 1}, {At: 1, N: math.MaxInt}, {At: math.MaxInt, N: math.MaxInt}, {At: math.MinInt, N: 1}, {At: 1, N: math.MinInt}, {At: math.MinInt, N: math.MaxInt}, {At: math.MinInt, N: math.MinInt},
		} {
			for _, d := range []*disk.Disk{d, down} {
				if s, e := store.Open(d, x); s != nil || e != api.ErrRegion {
					t.Errorf("%v of %d blocks: %v, %d", x, n, s, e)
				}
			}
		}
		if !alike(held(t, d), m) || d.Open() != 0 {
			t.Errorf("%d blocks: something is written", n)
		}
	}
}

func TestOpenOfNobodysDevice(t *testing.T) {
	for _, d := range []*disk.Disk{nil, {}, new(disk.Disk)} {
		for _, x := range []api.Extent{{At: 0, N: 4}, {}, {At: -1, N: 1}, {At: 0, N: 5000}} {
			if s, e := store.Open(d, x); s != nil || e != api.ErrNil {
				t.Errorf("%v: %v, %d", x, s, e)
			}
		}
	}
}

func TestOpenOfADeviceThatIsDown(t *testing.T) {
	d := zeros(4).device(t)
	lost(t, d, way{})
	if s, e := store.Open(d, api.Extent{At: 0, N: 4}); s != nil || e != api.ErrDown {
		t.Errorf("%v, %d", s, e)
	}
}

func TestWhatIsFound(t *testing.T) {
	one, two, three := []byte("one"), wild(2, 2), wild(3, 3)
	p1, p2, p3 := packed(t, one), packed(t, two), packed(t, three)
	damaged := bytes.Clone(p2)
	damaged[600] ^= 1
	x := api.Extent{At: 2, N: 8}
	m := zeros(12)
	for what, m := range map[string]image{
		"nothing":                           m,
		"a chunk at the first block":        m.with(2, p2),
		"a chunk at the last blocks":        m.with(7, p3),
		"a chunk of one at the last block":  m.with(9, p1),
		"chunks side by side":               m.with(2, p1).with(3, p3).with(6, p2),
		"all blocks are chunks'":            m.with(2, p3).with(5, packed(t, wild(3, 4))).with(8, p2),
		"one that is damaged":               m.with(4, damaged),
		"SCHK that goes beyond":             m.with(8, p3),
		"SCHX that goes beyond":             m.with(8, claimed(p3)),
		"SCHK that goes beyond the device":  m.with(9, p3),
		"SCHX at the last blocks":           m.with(7, claimed(p3)),
		"SCHX at the first block":           m.with(2, claimed(p3)),
		"SCHX of one at the last block":     m.with(9, claimed(p1)),
		"SCHK ahead of the store":           m.with(1, p3),
		"SCHX ahead of the store":           m.with(0, claimed(p3)),
		"chunks outside":                    m.with(0, p2).with(10, p2),
		"the same twice":                    m.with(3, p2).with(6, p2),
		"the same twice, side by side":      m.with(3, p2).with(5, p2),
		"the same thrice":                   m.with(2, p1).with(4, p1).with(9, p1),
		"the same twice, the first damaged": m.with(3, damaged).with(6, p2),
		"the same twice, the other damaged": m.with(3, p2).with(6, damaged),
		"claimed, and a chunk of it behind": m.with(3, claimed(p2)).with(6, p2),
		"a chunk, and claimed behind":       m.with(3, p2).with(6, claimed(p2)),
		"claimed twice":                     m.with(3, claimed(p2)).with(6, claimed(p2)),
		"heads within a chunk":              m.with(3, packed(t, sly(4, 1))),
		"heads within claimed blocks":       m.with(3, claimed(packed(t, sly(4, 1)))),
		"heads behind a head that is none":  m.with(3, packed(t, sly(4, 1))).with(3, []byte("none")),
		"claimed over a chunk":              m.with(3, claimed(p3)).with(4, p1),
		"chunk over a chunk":                m.with(3, p3).with(4, p1),
		"loose ones":                        m.with(2, []byte{1}).with(5, append(make([]byte, 511), 1)).with(9, []byte("SCHK")),
		"loose and claimed ones in turns":   m.with(2, []byte("a")).with(3, claimed(p2)).with(5, []byte("b")).with(6, claimed(p3)).with(9, []byte("c")),
		"loose ones outside":                m.with(1, []byte("a")).with(10, []byte("b")),
		"claimed blocks of zeros":           m.with(3, claimed(p3)).with(4, make([]byte, 1024)),
		"claimed blocks, some of zeros":     m.with(3, claimed(p3)).with(4, make([]byte, 512)),
	} {
		finds(t, what, m, x)
	}
}

func TestAHeadsNumbers(t *testing.T) {
	x := api.Extent{At: 0, N: 10}
	d := digest([]byte("any"))
	for _, mark := range []string{"SCHK", "SCHX", "SCHx", "SCHL", "XCHK", "SXHX", "SCXK", "\x00CHX"} {
		for _, c := range []struct{ chunk, code int }{
			{1, 1}, {4096, 1}, {1, 4100}, {4096, 4100}, {1, 468}, {1, 469}, {0, 1}, {4097, 1}, {1, 0}, {1, 4101}, {0, 0}, {65535, 65535}, {4096, 4101}, {4097, 4100},
		} {
			finds(t, mark, zeros(12).with(1, head(mark, c.chunk, c.code, d)), x)
			finds(t, mark+", a chunk behind it", zeros(12).with(1, head(mark, c.chunk, c.code, d)).with(2, packed(t, []byte("behind"))), x)
			finds(t, mark+", at the end", zeros(12).with(9, head(mark, c.chunk, c.code, d)), x)
		}
	}
	finds(t, "a digest of zeros", zeros(12).with(1, head("SCHK", 1, 1, api.Digest{})).with(3, []byte("loose")), x)
}

func TestJustLooseBlocksThatAreNotZeroAreWritten(t *testing.T) {
	for at := range 512 {
		m := zeros(5).with(2, append(make([]byte, at), 1))
		d := m.device(t)
		fused(t, d, 2)
		opened(t, d, api.Extent{At: 1, N: 3})
		if e := d.Write(0, nil); e != api.ErrDark {
			t.Errorf("%d: fewer than a write and a sync", at)
		}
		if !alike(held(t, d), zeros(5)) {
			t.Errorf("%d: it is not erased", at)
		}
	}
}

func TestOpenOfAllBlocksOfTheGreatestDevice(t *testing.T) {
	c := chance(4096)
	m := zeros(4096)
	for i := range m {
		m[i] = c.row(512)
	}
	chunk := greatest(1)
	m = m.with(0, packed(t, chunk)).with(4087, packed(t, greatest(2)))
	d := m.device(t)
	s := opened(t, d, api.Extent{At: 0, N: 4096})
	tells(t, "all blocks", s, rising(chunk, greatest(2)), 4096-18)
	got(t, "the first one", s, chunk)
	got(t, "the last one", s, greatest(2))
	want := zeros(4096).with(0, packed(t, chunk)).with(4087, packed(t, greatest(2)))
	if !alike(held(t, d), want) {
		t.Error("the others are not erased")
	}
}

func TestOpenOfAnyImage(t *testing.T) {
	c := chance(12)
	parts := [][]byte{{0}, {0}, {1}, []byte("SCHK"), []byte("SCHX")}
	for k := range 6 {
		b := packed(t, wild(1+k%3, k/2))
		damaged := bytes.Clone(b)
		damaged[c.below(len(b))] ^= 0x13
		parts = append(parts, b, claimed(b), damaged)
	}
	parts = append(parts, packed(t, sly(3, 1)), claimed(packed(t, sly(3, 1))))
	for range 150 {
		m := zeros(20)
		for range 12 {
			b := parts[c.below(len(parts))]
			m = m.with(c.below(20-(len(b)-1)/512), b)
		}
		at := c.below(20)
		finds(t, "any", m, api.Extent{At: at, N: 1 + c.below(20-at)})
	}
}

func TestOpenEndsAtADevicesError(t *testing.T) {
	m := zeros(8).with(1, claimed(packed(t, wild(2, 1)))).with(4, []byte("loose"))
	x := api.Extent{At: 0, N: 8}
	for n := range 5 {
		d, call := opening(t, m, x)
		fused(t, d, n)
		if e := call(); e != api.ErrDark {
			t.Errorf("a fuse of %d: %d", n, e)
		}
	}
	d, call := opening(t, m, x)
	fused(t, d, 5)
	if e := call(); e != api.OK {
		t.Errorf("a fuse of 5: %d", e)
	}
}

func TestNobodysStore(t *testing.T) {
	for _, s := range []*store.Store{nil, {}, new(store.Store)} {
		for _, b := range [][]byte{nil, []byte("a"), make([]byte, 4097)} {
			putFails(t, "nobody's", s, b, api.ErrNil)
		}
		getFails(t, "nobody's", s, api.Digest{}, api.ErrNil)
		if l, e := s.Scrub(); len(l) != 0 || e != api.ErrNil {
			t.Errorf("Scrub: %x, %d", l, e)
		}
		for _, l := range [][]api.Digest{nil, {{}}, {{1}, {2}}} {
			if n, e := s.Keep(l...); n != 0 || e != api.ErrNil {
				t.Errorf("Keep: %d, %d", n, e)
			}
		}
		tells(t, "nobody's", s, nil, 0)
	}
}

func TestListRises(t *testing.T) {
	_, s := fresh(t, 64)
	var chunks [][]byte
	for k := range 64 {
		chunks = append(chunks, []byte{byte(k)})
		put(t, s, chunks[k])
		tells(t, "some", s, rising(chunks...), 63-k)
	}
}

func TestAListIsNewMemory(t *testing.T) {
	_, s := fresh(t, 8)
	put(t, s, []byte("a"))
	put(t, s, []byte("b"))
	want := rising([]byte("a"), []byte("b"))
	clear(s.List())
	tells(t, "behind a list that was changed", s, want, 6)
}

func TestACopyIsTheSameStore(t *testing.T) {
	_, s := fresh(t, 8)
	c := *s
	a, b := wild(3, 1), wild(2, 2)
	put(t, s, a)
	put(t, &c, b)
	tells(t, "a copy", &c, rising(a, b), 3)
	tells(t, "the other", s, rising(a, b), 3)
	got(t, "the other", s, b)
	kept(t, &c, 1, digest(b))
	tells(t, "the other", s, rising(b), 6)
}

func TestTheDeviceIsShared(t *testing.T) {
	d := zeros(12).device(t)
	low, high := opened(t, d, api.Extent{At: 0, N: 6}), opened(t, d, api.Extent{At: 6, N: 6})
	a, b := wild(5, 1), wild(6, 2)
	put(t, low, a)
	put(t, high, b)
	putFails(t, "low", low, b, api.ErrFull)
	kept(t, low, 1)
	tells(t, "low", low, nil, 6)
	tells(t, "high", high, rising(b), 0)
	got(t, "high", high, b)
	if !alike(held(t, d), zeros(12).with(6, packed(t, b))) {
		t.Error("the blocks hold something else")
	}
}
