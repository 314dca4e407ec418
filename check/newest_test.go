package check_test

import (
	"bytes"
	"slices"
	"testing"

	"saltern/api"
	"saltern/check"
)

// newest asks for the place of the newest mark; below 0: there is none.
func newest(t *testing.T, what string, key []byte, l []api.Mark, want int) {
	t.Helper()
	was, k := slices.Clone(l), bytes.Clone(key)
	at, found := check.Newest(key, l...)
	if at != max(want, 0) || found != (want >= 0) {
		t.Errorf("%s: %d, %v, not %d", what, at, found, want)
	}
	if i, ok := wordedNewest(key, l); at != i || found != ok {
		t.Errorf("%s: %d, %v; by the words %d, %v", what, at, found, i, ok)
	}
	if !slices.Equal(l, was) || !bytes.Equal(key, k) {
		t.Errorf("%s: an argument changed", what)
	}
}

// at is a sealed mark of site 0.
func at(key []byte, seq, epoch int, chain byte) api.Mark {
	return wordedMark(key, 0, api.Head{Seq: seq, Epoch: epoch, Chain: api.Digest{chain}})
}

// forged is a mark with another Mac.
func forged(m api.Mark) api.Mark {
	m.Mac[17] ^= 4
	return m
}

// P16.2
func TestNewestOfNone(t *testing.T) {
	key := keyOf(5)
	newest(t, "nil", key, nil, -1)
	newest(t, "empty", nil, []api.Mark{}, -1)
	newest(t, "one that is not sealed", key, []api.Mark{forged(at(key, 3, 1, 1))}, -1)
	newest(t, "some that are not", key, []api.Mark{forged(at(key, 3, 1, 1)), at(keyOf(6), 3, 1, 1), {}, {Site: 2}, {Head: api.Head{Seq: 9, Epoch: 9}}}, -1)
	var l []api.Mark
	for _, h := range badHeads() {
		l = append(l, wordedMark(key, 0, h), wordedMark(key, 1, h))
	}
	for _, site := range badSites() {
		l = append(l, wordedMark(key, site, api.Head{Seq: 1, Epoch: 1}))
	}
	newest(t, "those that may not be", key, l, -1)
	newest(t, "but for one", key, append(l, at(key, 1, 1, 1)), len(l))
	newest(t, "but for one of the zero head", key, append(l, at(key, 0, 0, 0)), len(l))
}

// P16.2: the greatest Seq, of these the greatest Epoch, of these the first.
func TestNewest(t *testing.T) {
	key := keyOf(5)
	seal := func(seq, epoch int, chain byte) api.Mark { return at(key, seq, epoch, chain) }
	zero := seal(0, 0, 0)
	other := wordedMark(key, 1, api.Head{Seq: 3, Epoch: 1, Chain: api.Digest{1}})
	for _, c := range []struct {
		what string
		l    []api.Mark
		want int
	}{
		{"one", []api.Mark{seal(3, 1, 1)}, 0},
		{"the zero head", []api.Mark{zero}, 0},
		{"the zero head twice", []api.Mark{zero, zero}, 0},
		{"a Seq above the zero head", []api.Mark{zero, seal(1, 1, 0)}, 1},
		{"the zero head behind", []api.Mark{seal(1, 1, 0), zero}, 0},
		{"Seq rising", []api.Mark{seal(1, 1, 1), seal(2, 1, 1), seal(3, 1, 1)}, 2},
		{"Seq falling", []api.Mark{seal(3, 1, 1), seal(2, 1, 1), seal(1, 1, 1)}, 0},
		{"in the midst", []api.Mark{seal(1, 1, 1), seal(3, 1, 1), seal(2, 1, 1)}, 1},
		{"a greater Seq with a lesser Epoch", []api.Mark{seal(2, 9, 1), seal(3, 1, 1)}, 1},
		{"a lesser Seq with a greater Epoch", []api.Mark{seal(3, 1, 1), seal(2, 9, 1)}, 0},
		{"alike Seq, Epoch rising", []api.Mark{seal(3, 1, 1), seal(3, 2, 1)}, 1},
		{"alike Seq, Epoch falling", []api.Mark{seal(3, 2, 1), seal(3, 1, 1)}, 0},
		{"alike Seq, the greatest Epoch in the midst", []api.Mark{seal(3, 2, 1), seal(3, 7, 1), seal(3, 3, 1)}, 1},
		{"alike ones", []api.Mark{seal(1, 1, 1), seal(3, 1, 1), seal(3, 1, 1), seal(3, 1, 1)}, 1},
		{"other chains, rising", []api.Mark{seal(3, 1, 1), seal(3, 1, 2)}, 0},
		{"other chains, falling", []api.Mark{seal(3, 1, 2), seal(3, 1, 1)}, 0},
		{"another site behind", []api.Mark{seal(3, 1, 1), other}, 0},
		{"another site ahead", []api.Mark{other, seal(3, 1, 1)}, 0},
		{"a greater Seq that is not sealed, behind", []api.Mark{seal(3, 1, 1), forged(seal(4, 1, 1))}, 0},
		{"a greater Seq that is not sealed, ahead", []api.Mark{forged(seal(4, 1, 1)), seal(3, 1, 1)}, 1},
		{"a greater Epoch that is not sealed", []api.Mark{forged(seal(3, 5, 1)), seal(3, 1, 1), forged(seal(3, 6, 1))}, 1},
		{"an alike one that is not sealed", []api.Mark{forged(seal(3, 1, 1)), seal(3, 1, 1)}, 1},
		{"the least and the greatest", []api.Mark{seal(1, 1<<30, 1), seal(1<<30, 1, 1), seal(1<<30-1, 1<<30, 1)}, 1},
		{"the greatest", []api.Mark{seal(1<<30, 1<<30-1, 1), seal(1<<30, 1<<30, 1)}, 1},
	} {
		newest(t, c.what, key, c.l, c.want)
	}
}

// P16.2: rows of few unlike marks, some of which are not sealed.
func TestNewestOfAnyMarks(t *testing.T) {
	key := keyOf(5)
	c := chance(5)
	for range 4000 {
		var l []api.Mark
		for range c.below(7) {
			m := wordedMark(key, c.below(3), api.Head{Seq: c.below(4), Epoch: c.below(4), Chain: api.Digest{byte(c.below(2))}})
			if c.below(4) == 0 {
				m = forged(m)
			}
			l = append(l, m)
		}
		want, ok := wordedNewest(key, l)
		if !ok {
			want = -1
		}
		newest(t, "any marks", key, l, want)
	}
}
