package region_test

import (
	"slices"
	"testing"

	"saltern/api"
	"saltern/region"
)

// P10.4
func TestTakenAndGivenBack(t *testing.T) {
	c := chance(4)
	for range 300 {
		blocks := 1 + c.below(4096)
		was := rowOf(c.free(blocks, 1+c.below(60)))
		n := 1 + c.below(20)
		x, l, e := region.Take(blocks, was, n)
		if e == api.ErrFull {
			continue
		}
		if n, _ := region.Sum(l); e != api.OK || n != sum(was)-x.N {
			t.Fatalf("Take: %v, %d", x, e)
		}
		is(t, "given back", given(t, blocks, l, x), api.OK, was)
		is(t, "given and claimed", claimed(t, blocks, given(t, blocks, l, x), x), api.OK, l)
	}
}

func sum(l []api.Extent) int {
	n := 0
	for _, x := range l {
		n += x.N
	}
	return n
}

// P10.4: all that can be taken, given back in the order in which it was taken, and in the other one.
func TestAllTakenAndGivenBack(t *testing.T) {
	c := chance(5)
	for range 40 {
		blocks := 1 + c.below(600)
		was := rowOf(c.free(blocks, 40))
		var got []api.Extent
		l := was
		for len(l) > 0 {
			n := 1 + c.below(region.Greatest(l).N)
			x, rest := taken(t, blocks, l, n)
			got, l = append(got, x), rest
		}
		for range 2 {
			slices.Reverse(got)
			var back []api.Extent
			for _, x := range got {
				back = given(t, blocks, back, x)
			}
			is(t, "given back", back, api.OK, was)
		}
	}
}

// P10.5
func TestAnyOrder(t *testing.T) {
	c := chance(6)
	for range 60 {
		blocks := 1 + c.below(400)
		free := c.free(blocks, 30)
		parts := cutUp(&c, rowOf(free))
		for range 5 {
			for i := range parts {
				k := i + c.below(len(parts)-i)
				parts[i], parts[k] = parts[k], parts[i]
			}
			var l []api.Extent
			for _, x := range parts {
				l = given(t, blocks, l, x)
				wantErr(t, "a row with it", region.Check(blocks, l), api.OK)
			}
			is(t, "given in some order", l, api.OK, rowOf(free))
		}
	}
}

// cutUp are the extents of a row, cut into parts.
func cutUp(c *chance, l []api.Extent) []api.Extent {
	var parts []api.Extent
	for _, x := range l {
		for x.N > 0 {
			n := 1 + c.below(x.N)
			parts = append(parts, api.Extent{At: x.At, N: n})
			x = api.Extent{At: x.At + n, N: x.N - n}
		}
	}
	return parts
}

// P10.5: every order of five extents.
func TestEveryOrder(t *testing.T) {
	parts := row(0, 2, 2, 1, 4, 3, 7, 1, 11, 1)
	var try func(k int)
	try = func(k int) {
		if k == len(parts) {
			var l []api.Extent
			for _, x := range parts {
				l = given(t, 12, l, x)
			}
			is(t, "given", l, api.OK, row(0, 3, 4, 4, 11, 1))
			return
		}
		for i := k; i < len(parts); i++ {
			parts[k], parts[i] = parts[i], parts[k]
			try(k + 1)
			parts[k], parts[i] = parts[i], parts[k]
		}
	}
	try(0)
}

// P10.6
func TestOtherHasTheOthers(t *testing.T) {
	c := chance(7)
	for i := range 200 {
		blocks := c.below(4097)
		if i == 0 {
			blocks = 4096
		}
		l := rowOf(c.free(blocks, 1+c.below(50)))
		o := other(t, blocks, l)
		wantErr(t, "Other's row", region.Check(blocks, o), api.OK)
		in, out := freeOf(blocks, l), freeOf(blocks, o)
		for i := range blocks {
			if in[i] == out[i] {
				t.Fatalf("block %d of %d is in both rows, or in none", i, blocks)
			}
		}
		if sum(l)+sum(o) != blocks {
			t.Fatalf("%d and %d blocks of %d", sum(l), sum(o), blocks)
		}
		is(t, "Other of Other", other(t, blocks, o), api.OK, l)
	}
}

// P10.7
func TestTakenFirst(t *testing.T) {
	c := chance(8)
	for range 300 {
		blocks := 1 + c.below(700)
		free := c.free(blocks, 1+c.below(12))
		n := 1 + c.below(12)
		want := firstOf(free, n)
		x, _, e := region.Take(blocks, rowOf(free), n)
		if want < 0 && e != api.ErrFull || want >= 0 && (e != api.OK || x.At != want || x.N != n) {
			t.Fatalf("Take(%v, %d): %v, %d, not from %d on", rowOf(free), n, x, e, want)
		}
	}
}

// All calls together, beside blocks that are marked one by one.
func TestBesideMarks(t *testing.T) {
	c := chance(9)
	for range 20 {
		blocks := 1 + c.below(300)
		free := c.free(blocks, 1+c.below(20))
		l := rowOf(free)
		for range 200 {
			x := api.Extent{At: c.below(blocks), N: 1 + c.below(9)}
			fits := isIn(blocks, x)
			switch c.below(3) {
			case 0:
				if got, rest, e := region.Take(blocks, l, x.N); e == api.OK {
					l, free = rest, marked(free, got.At, got.N, false)
				}
			case 1:
				rest, e := region.Claim(blocks, l, x)
				if (e == api.OK) != (fits && region.Has(l, x)) {
					t.Fatalf("Claim(%v, %v): %d", l, x, e)
				}
				if e == api.OK {
					l, free = rest, marked(free, x.At, x.N, false)
				}
			case 2:
				rest, e := region.Give(blocks, l, x)
				if (e == api.OK) != (fits && region.Has(other(t, blocks, l), x)) {
					t.Fatalf("Give(%v, %v): %d", l, x, e)
				}
				if e == api.OK {
					l, free = rest, marked(free, x.At, x.N, true)
				}
			}
			if !slices.Equal(l, rowOf(free)) {
				t.Fatalf("%v, not %v", l, rowOf(free))
			}
		}
	}
}
