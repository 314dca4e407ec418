package check_test

import (
	"math"
	"slices"
	"testing"

	"saltern/api"
	"saltern/check"
	"saltern/record"
)

// has asks whether a catalogue has a head.
func has(t *testing.T, what string, l []api.Record, h api.Head, want bool) {
	t.Helper()
	was := slices.Clone(l)
	if got := check.Has(l, h); got != want || got != wordedHas(l, h) {
		t.Errorf("%s: of %d records %v: %v", what, len(l), h, got)
	}
	if !slices.EqualFunc(l, was, record.Same) {
		t.Errorf("%s: the records changed", what)
	}
}

// hasNoneLike asks that a catalogue has no head that is another one than this, but for one field.
func hasNoneLike(t *testing.T, l []api.Record, h api.Head) {
	t.Helper()
	for _, n := range []int{-1, 1, 2, -1 << 32, 1 << 32, math.MinInt} {
		has(t, "another Epoch", l, api.Head{Seq: h.Seq, Epoch: h.Epoch + n, Chain: h.Chain}, false)
		has(t, "another Seq", l, api.Head{Seq: h.Seq + n, Epoch: h.Epoch, Chain: h.Chain}, false)
	}
	for bit := range 256 {
		other := h
		other.Chain[bit/8] ^= 1 << (bit % 8)
		has(t, "another Chain", l, other, false)
	}
}

// P16.2: of no records there is the zero head alone.
func TestHasOfNoRecords(t *testing.T) {
	for _, l := range [][]api.Record{nil, {}} {
		has(t, "the zero head", l, api.Head{}, true)
		hasNoneLike(t, l, api.Head{})
		for _, h := range append(goodHeads()[1:], badHeads()...) {
			has(t, "another head", l, h, false)
		}
	}
}

// P16.2: the head of each number, at 0, in the midst and at the end, and none that is another one.
func TestHas(t *testing.T) {
	x := chance(3)
	for n := range 20 {
		c := none().any(t, &x, n)
		other := c.any(t, &x, 2)
		for k, h := range c.heads {
			has(t, "its own", c.l, h, true)
			has(t, "up to its end", c.l[:k], h, true)
			hasNoneLike(t, c.l, h)
			if k > 0 {
				has(t, "one record fewer", c.l[:k-1], h, false)
			}
		}
		for _, h := range other.heads[n+1:] {
			has(t, "behind its end", c.l, h, false)
		}
		for _, h := range badHeads() {
			has(t, "one that may not be", c.l, h, false)
		}
	}
}

// P16.2: hand-made numbers.
func TestHasOfAnyNumber(t *testing.T) {
	c := none().puts(t, "a", "b")
	for _, seq := range append(wrongNumbers(), 0, 1, 2, 3, 4, 5, 1<<30) {
		for _, h := range append(c.heads, api.Head{Epoch: 1}, api.Head{Chain: api.Digest{1}}) {
			want := seq == h.Seq && seq > 0 || seq == 0 && h == api.Head{}
			has(t, "a number", c.l, api.Head{Seq: seq, Epoch: h.Epoch, Chain: h.Chain}, want)
		}
	}
}

// P16.2: one that is no chain up to a head has none; behind it that does not count.
func TestHasOfNoChain(t *testing.T) {
	x := chance(4)
	for n := 1; n < 9; n++ {
		c := none().any(t, &x, n)
		for at := range n {
			for _, f := range faults() {
				l := spoilt(c.l, at, f)
				for k, h := range c.heads {
					has(t, f.what, l, h, k <= at)
				}
				// The record's own head, as its Seq, Epoch and bytes tell it.
				if d, e := record.Chain(l[at]); e == api.OK {
					has(t, f.what, l, api.Head{Seq: l[at].Seq, Epoch: l[at].Epoch, Chain: d}, false)
					has(t, f.what, l, api.Head{Seq: at + 1, Epoch: l[at].Epoch, Chain: d}, false)
				}
			}
			less := slices.Delete(slices.Clone(c.l), at, at+1)
			twice := slices.Insert(slices.Clone(c.l), at, c.l[at])
			for k, h := range c.heads {
				has(t, "one left out", less, h, k <= at)
				has(t, "one twice", twice, h, k <= at+1)
			}
		}
	}
}

// P16.2: two catalogues that part have the same heads ahead of that, and no others.
func TestHasOfTwoThatPart(t *testing.T) {
	for n := range 6 {
		base := none().any(t, new(chance), n)
		a, b := base.leads(t, 90, 0).puts(t, "a"), base.leads(t, 90, 1).puts(t, "a")
		for k := range a.heads {
			has(t, "a of b", a.l, b.heads[k], k <= n)
			has(t, "b of a", b.l, a.heads[k], k <= n)
		}
	}
}
