package store_test

import (
	"bytes"
	"testing"

	"saltern/api"
)

// P12.3

func TestGetOfMany(t *testing.T) {
	d, s := fresh(t, 200)
	var chunks [][]byte
	for k := range 40 {
		chunks = append(chunks, wild(1+k%8, k))
		put(t, s, chunks[k])
	}
	for _, b := range chunks {
		got(t, "many", s, b)
	}
	anew := opened(t, d, api.Extent{At: 0, N: 200})
	tells(t, "anew", anew, rising(chunks...), 20)
	for _, b := range chunks {
		got(t, "anew", anew, b)
	}
	scrubbed(t, "many", anew, nil)
}

func TestGetOfWhatIsNotThere(t *testing.T) {
	d, s := fresh(t, 8)
	a := put(t, s, []byte("a"))
	near := a
	near[31] ^= 1
	lost(t, d, way{})
	for _, x := range []api.Digest{{}, {1}, near} {
		getFails(t, "not there", s, x, api.ErrNone)
	}
	getFails(t, "down", s, a, api.ErrDown)
}

func TestEachByteThatRots(t *testing.T) {
	d, s := fresh(t, 8)
	a, b := wild(2, 1), bytes.Repeat([]byte("ab"), 30)
	put(t, s, []byte("ahead"))
	put(t, s, a)
	put(t, s, b)
	for i, chunk := range map[int][]byte{1: a, 2: a, 3: b} {
		for at := range 512 {
			for _, mask := range []byte{1, 0x80, 0xff} {
				rotted(t, d, i, at, mask)
				getFails(t, "rotten", s, digest(chunk), api.ErrDamaged)
				if !s.Has(digest(chunk)) {
					t.Errorf("%d, %d: it is not there", i, at)
				}
				rotted(t, d, i, at, mask)
			}
		}
		got(t, "as it was", s, chunk)
	}
}

func TestScrubTellsAllThatAreDamaged(t *testing.T) {
	d, s := fresh(t, 40)
	scrubbed(t, "empty", s, nil)
	var chunks [][]byte
	for k := range 10 {
		chunks = append(chunks, wild(2, k))
		put(t, s, chunks[k])
	}
	scrubbed(t, "whole", s, nil)
	var bad [][]byte
	for _, k := range []int{7, 0, 9, 4, 3} {
		rotted(t, d, 2*k+k%2, 20+k, 1)
		bad = append(bad, chunks[k])
		scrubbed(t, "some", s, rising(bad...))
		getFails(t, "some", s, digest(chunks[k]), api.ErrDamaged)
	}
	tells(t, "some", s, rising(chunks...), 20)
	for _, k := range []int{1, 2, 5, 6, 8} {
		got(t, "whole", s, chunks[k])
		rotted(t, d, 2*k+1, 511, 1)
	}
	scrubbed(t, "all", s, rising(chunks...))
	fused(t, d, 0)
	scrubbed(t, "dark", s, rising(chunks...))
}

func TestScrubOfADeviceThatIsDown(t *testing.T) {
	d, s := fresh(t, 8)
	empty := opened(t, d, api.Extent{At: 4, N: 4})
	put(t, s, []byte("a"))
	lost(t, d, way{})
	if l, e := s.Scrub(); len(l) != 0 || e != api.ErrDown {
		t.Errorf("Scrub: %x, %d", l, e)
	}
	scrubbed(t, "empty", empty, nil)
	tells(t, "down", s, rising([]byte("a")), 7)
}

func TestRotAheadOfOpen(t *testing.T) {
	b := wild(2, 1)
	x := api.Extent{At: 0, N: 8}
	for what, c := range spoils() {
		m := zeros(8).with(2, packed(t, b)).rotten(2, c[0], byte(c[1]))
		finds(t, what, m, x)
		s := opened(t, m.device(t), x)
		scrubbed(t, what, s, s.List())
		if s.Has(digest(b)) {
			getFails(t, what, s, digest(b), api.ErrDamaged)
		} else {
			getFails(t, what, s, digest(b), api.ErrNone)
		}
		put(t, s, b)
		got(t, what, s, b)
	}
}

func TestBlocksThatHoldAnotherChunk(t *testing.T) {
	d, s := fresh(t, 8)
	a, b := wild(2, 1), wild(1, 2)
	put(t, s, a)
	put(t, s, []byte("whole"))
	if e := d.Write(0, packed(t, b)); e != api.OK {
		t.Fatal(e)
	}
	getFails(t, "another", s, digest(a), api.ErrDamaged)
	getFails(t, "the other", s, digest(b), api.ErrNone)
	scrubbed(t, "another", s, rising(a))
	got(t, "beside it", s, []byte("whole"))
}

func TestWhatGetTellsIsNewMemory(t *testing.T) {
	_, s := fresh(t, 8)
	b := wild(2, 1)
	d := put(t, s, b)
	c, _ := s.Get(d)
	clear(c)
	got(t, "behind an answer that was changed", s, b)
}

// P12.7

func TestWhateverRotsGetTellsTheChunkOrAnError(t *testing.T) {
	c := chance(127)
	x := api.Extent{At: 1, N: 22}
	var chunks [][]byte
	m := zeros(24)
	at := 1
	for k, n := range []int{1, 2, 1, 3, 1, 5} {
		chunks = append(chunks, sly(n, k))
		m = m.with(at, packed(t, chunks[k]))
		at += n + k%2
	}
	for range 400 {
		d := m.device(t)
		s := opened(t, d, x)
		for range 1 + c.below(6) {
			i, to := c.below(24), c.below([]int{8, 44, 512}[c.below(3)])
			mask := byte(1 + c.below(255))
			rotted(t, d, i, to, mask)
		}
		trueOrError(t, s, chunks)
		trueOrError(t, opened(t, d, x), chunks)
	}
}

// trueOrError asks that each digest that is told, and each that was put, has its chunk or an error.
func trueOrError(t *testing.T, s interface {
	Get(api.Digest) ([]byte, api.Errno)
	List() []api.Digest
}, chunks [][]byte) {
	t.Helper()
	for _, d := range append(s.List(), rising(chunks...)...) {
		b, e := s.Get(d)
		if e == api.OK && digest(b) != d || e != api.OK && len(b) > 0 {
			t.Errorf("Get(%x): %d bytes, %d", d, len(b), e)
		}
		if e != api.OK && e != api.ErrNone && e != api.ErrDamaged {
			t.Errorf("Get(%x): %d", d, e)
		}
	}
}
