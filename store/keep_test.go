package store_test

import (
	"slices"
	"testing"

	"saltern/api"
	"saltern/disk"
)

// P12.4

// keeping is a task: Keep on an image that Open does not change.
func keeping(t *testing.T, m image, x api.Extent, want int, l ...api.Digest) task {
	t.Helper()
	return func() (*disk.Disk, func() api.Errno) {
		d := m.device(t)
		s := opened(t, d, x)
		all, free := s.List(), s.Free()
		return d, func() api.Errno {
			n, e := s.Keep(l...)
			if e != api.OK {
				tells(t, "behind a device's error", s, all, free)
				if n != 0 {
					t.Errorf("Keep: %d beside %d", n, e)
				}
			} else if n != want {
				t.Errorf("Keep: %d, not %d", n, want)
			}
			return e
		}
	}
}

// shelf is an image of chunks of 1, 2, 3, 1 and 4 blocks, one free block ahead of each, and these.
func shelf(t *testing.T) (image, [][]byte, []api.Extent) {
	t.Helper()
	m := zeros(18)
	var chunks [][]byte
	var places []api.Extent
	at := 1
	for k, n := range []int{1, 2, 3, 1, 4} {
		at++
		chunks = append(chunks, sly(n, 50+k))
		places = append(places, api.Extent{At: at, N: n})
		m = m.with(at, packed(t, chunks[k]))
		at += n
	}
	return m, chunks, places
}

func TestKeepOfAnySet(t *testing.T) {
	m, chunks, places := shelf(t)
	x := api.Extent{At: 1, N: 17}
	for set := range 1 << len(chunks) {
		var l []api.Digest
		var stay [][]byte
		var gone []api.Extent
		want, free := m, 6
		for k := range chunks {
			if set>>k&1 == 1 {
				l = append([]api.Digest{digest(chunks[k])}, l...)
				stay = append(stay, chunks[k])
				continue
			}
			gone = append(gone, places[k])
			want = want.with(places[k].At, make([]byte, 512*places[k].N))
			free += places[k].N
		}
		d := m.device(t)
		s := opened(t, d, x)
		kept(t, s, len(gone), l...)
		tells(t, "kept", s, rising(stay...), free)
		if !alike(held(t, d), want) || d.Open() != 0 {
			t.Errorf("%b: the blocks hold something else", set)
		}
		for k, b := range chunks {
			if set>>k&1 == 1 {
				got(t, "kept", s, b)
			} else {
				getFails(t, "dropped", s, digest(b), api.ErrNone)
			}
		}
		kept(t, s, 0, l...)
		if len(gone) == 0 {
			does(t, "Keep of all", m, keeping(t, m, x, 0, l...), nil)
		} else {
			does(t, "Keep", m, keeping(t, m, x, len(gone), l...), dropping(m, gone...))
		}
	}
}

func TestKeepOfOthersAndOfSomeTwice(t *testing.T) {
	m, chunks, _ := shelf(t)
	s := opened(t, m.device(t), api.Extent{At: 0, N: 18})
	a := digest(chunks[1])
	l := []api.Digest{{}, a, {1}, a, digest(chunks[4]), a, digest([]byte("not there"))}
	was := slices.Clone(l)
	kept(t, s, 3, l...)
	if !slices.Equal(l, was) {
		t.Error("what was handed in is changed")
	}
	clear(l)
	tells(t, "kept", s, rising(chunks[1], chunks[4]), 12)
	kept(t, s, 2, api.Digest{})
	tells(t, "none", s, nil, 18)
}

func TestKeepOfAllDoesNothing(t *testing.T) {
	m, chunks, _ := shelf(t)
	d := m.device(t)
	s := opened(t, d, api.Extent{At: 0, N: 18})
	fused(t, d, 0)
	kept(t, s, 0, s.List()...)
	if n, e := s.Keep(); n != 0 || e != api.ErrDark {
		t.Errorf("dark: %d, %d", n, e)
	}
	lost(t, d, way{})
	kept(t, s, 0, rising(chunks...)...)
	if n, e := s.Keep(s.List()[1:]...); n != 0 || e != api.ErrDown {
		t.Errorf("down: %d, %d", n, e)
	}
	tells(t, "down", s, rising(chunks...), 7)
	empty, none := fresh(t, 4)
	lost(t, empty, way{})
	kept(t, none, 0)
	kept(t, none, 0, api.Digest{1})
}

// Blocks of zeros behind a place, as a code that is not packed may have, are not written.
func TestKeepWritesNoBlockOfZeros(t *testing.T) {
	b := wild(5, 1)
	clear(b[512-47 : 1024-47])
	clear(b[1536-47 : 2048-47])
	last := make([]byte, 900)
	last[0] = 1
	m := zeros(12).with(1, stored(b)).with(7, stored(last))
	x := api.Extent{At: 0, N: 12}
	s := opened(t, m.device(t), x)
	got(t, "stored", s, b)
	got(t, "stored", s, last)
	want := dropping(m, api.Extent{At: 1, N: 5}, api.Extent{At: 7, N: 2})
	if len(want) != 2+1+2+1+2+1 {
		t.Fatalf("%d steps", len(want))
	}
	does(t, "zeros within", m, keeping(t, m, x, 2), want)
	want = dropping(m, api.Extent{At: 7, N: 2})
	if len(want) != 1+1+1+1 {
		t.Fatalf("%d steps", len(want))
	}
	does(t, "zeros behind", m, keeping(t, m, x, 1, digest(b)), want)
}

func TestKeepOfDamagedOnes(t *testing.T) {
	m, chunks, places := shelf(t)
	x := api.Extent{At: 0, N: 18}
	for what, c := range spoils() {
		d := m.device(t)
		s := opened(t, d, x)
		for _, p := range places[1:3] {
			rotted(t, d, p.At, c[0], byte(c[1]))
		}
		kept(t, s, 4, digest(chunks[1]))
		tells(t, what, s, rising(chunks[1]), 16)
		getFails(t, what, s, digest(chunks[1]), api.ErrDamaged)
		scrubbed(t, what, s, rising(chunks[1]))
		kept(t, s, 1)
		tells(t, what, s, nil, 18)
		if !alike(held(t, d), zeros(18)) {
			t.Errorf("%s: the blocks hold something else", what)
		}
	}
}

func TestWhatWasDroppedIsPutAnew(t *testing.T) {
	_, s := fresh(t, 9)
	a, b := wild(4, 1), wild(5, 2)
	for range 5 {
		put(t, s, a)
		put(t, s, b)
		tells(t, "both", s, rising(a, b), 0)
		kept(t, s, 1, digest(b))
		tells(t, "one", s, rising(b), 4)
		put(t, s, a)
		got(t, "anew", s, a)
		kept(t, s, 2)
		put(t, s, greatest(3)) // all blocks are one extent again
		kept(t, s, 1)
	}
}

// The tests' own account of a store, by the chapter's words: which chunks lie where.
type account struct {
	image  image
	chunks map[api.Digest]api.Extent
}

func (a *account) put(t *testing.T, b []byte) api.Errno {
	t.Helper()
	p := packed(t, b)
	if _, there := a.chunks[digest(b)]; there {
		return api.OK
	}
	run := 0
	for i := range a.image {
		run++
		for _, x := range a.chunks {
			if x.At <= i && i < x.At+x.N {
				run = 0
			}
		}
		if run == len(p)/512 {
			a.chunks[digest(b)] = api.Extent{At: i - run + 1, N: run}
			a.image = a.image.with(i-run+1, p)
			return api.OK
		}
	}
	return api.ErrFull
}

func (a *account) keep(l []api.Digest) int {
	n := 0
	for d, x := range a.chunks {
		if !slices.Contains(l, d) {
			delete(a.chunks, d)
			a.image = a.image.with(x.At, make([]byte, 512*x.N))
			n++
		}
	}
	return n
}

func (a *account) free() int {
	n := len(a.image)
	for _, x := range a.chunks {
		n -= x.N
	}
	return n
}

func TestManyCalls(t *testing.T) {
	c := chance(99)
	d, s := fresh(t, 24)
	a := &account{zeros(24), map[api.Digest]api.Extent{}}
	for range 600 {
		switch c.below(8) {
		case 0:
			var l []api.Digest
			for _, d := range s.List() {
				if c.below(3) > 0 {
					l = append(l, d)
				}
			}
			kept(t, s, a.keep(l), l...)
		case 1:
			s = opened(t, d, api.Extent{At: 0, N: 24})
		default:
			b := wild(1+c.below(6), c.below(5))
			want := a.put(t, b)
			if _, e := s.Put(b); e != want {
				t.Fatalf("Put: %d, not %d", e, want)
			}
			if want == api.OK {
				got(t, "many", s, b)
			}
		}
		tells(t, "many", s, there{chunks: a.chunks}.digests(), a.free())
		if !alike(held(t, d), a.image) || d.Open() != 0 {
			t.Fatal("the blocks hold something else")
		}
	}
}
