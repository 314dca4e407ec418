package region_test

import (
	"math"
	"slices"
	"testing"

	"saltern/api"
	"saltern/region"
)

// P10.2: each row of few blocks, with each number of blocks, and one more.
func TestTakeAsTheWordsSay(t *testing.T) {
	for blocks := range 9 {
		eachFree(blocks, func(free []bool) {
			for n := 1; n <= blocks+1; n++ {
				at := firstOf(free, n)
				x, l, e := region.Take(blocks, rowOf(free), n)
				if at < 0 {
					none(t, "Take", l, e, api.ErrFull)
					if x != (api.Extent{}) {
						t.Errorf("Take: %v beside an error", x)
					}
					continue
				}
				is(t, "Take", l, e, rowOf(marked(free, at, n, false)))
				if x != (api.Extent{At: at, N: n}) {
					t.Errorf("Take(%v, %d): %v", rowOf(free), n, x)
				}
			}
		})
	}
}

// firstOf is the first place with n free blocks from it on, -1 if there is none.
func firstOf(free []bool, n int) int {
	for at := 0; at+n <= len(free); at++ {
		if !slices.Contains(free[at:at+n], false) {
			return at
		}
	}
	return -1
}

// marked are the blocks with n of them, from at on, made free or taken.
func marked(free []bool, at, n int, is bool) []bool {
	free = slices.Clone(free)
	for i := range n {
		free[at+i] = is
	}
	return free
}

// P10.2
func TestTakeEdges(t *testing.T) {
	for _, c := range []struct {
		blocks int
		l      []api.Extent
		n      int
		x      api.Extent
		rest   []api.Extent
	}{
		{10, row(0, 3, 5, 5), 4, api.Extent{At: 5, N: 4}, row(0, 3, 9, 1)},
		{10, row(0, 3, 5, 5), 3, api.Extent{At: 0, N: 3}, row(5, 5)},
		{10, row(0, 3, 5, 5), 5, api.Extent{At: 5, N: 5}, row(0, 3)},
		{10, row(0, 3, 5, 5), 1, api.Extent{At: 0, N: 1}, row(1, 2, 5, 5)},
		{1, row(0, 1), 1, api.Extent{At: 0, N: 1}, nil},
		{4096, row(0, 4096), 4096, api.Extent{At: 0, N: 4096}, nil},
		{4096, row(0, 4096), 4095, api.Extent{At: 0, N: 4095}, row(4095, 1)},
		{4096, row(4095, 1), 1, api.Extent{At: 4095, N: 1}, nil},
		{12, row(0, 1, 2, 3, 6, 3), 3, api.Extent{At: 2, N: 3}, row(0, 1, 6, 3)},
	} {
		x, l, e := region.Take(c.blocks, c.l, c.n)
		is(t, "Take", l, e, c.rest)
		if x != c.x {
			t.Errorf("Take(%v, %d): %v, not %v", c.l, c.n, x, c.x)
		}
	}
}

// P10.2: first Check's errors, then n, then that no extent has as many.
func TestTakeWrong(t *testing.T) {
	refused := func(blocks int, l []api.Extent, n int, want api.Errno) {
		t.Helper()
		x, l, e := region.Take(blocks, l, n)
		none(t, "Take", l, e, want)
		if x != (api.Extent{}) {
			t.Errorf("Take: %v beside an error", x)
		}
	}
	few := []int{0, -1, -4096, math.MinInt}
	for _, n := range append(few, 1, 4097, math.MaxInt) {
		for _, blocks := range wrongBlocks() {
			refused(blocks, row(0, 1), n, api.ErrArg)
			refused(blocks, row(0, 0), n, api.ErrArg)
		}
		for _, l := range wrongRows() {
			refused(10, l, n, api.ErrExtent)
		}
		refused(10, row(0, 11), n, api.ErrExtent)
	}
	for _, n := range few {
		refused(10, row(0, 3, 5, 5), n, api.ErrArg)
		refused(10, nil, n, api.ErrArg)
		refused(0, nil, n, api.ErrArg)
	}
	for _, n := range []int{6, 8, 10, 11, 4097, math.MaxInt} {
		refused(10, row(0, 3, 5, 5), n, api.ErrFull)
	}
	refused(10, nil, 1, api.ErrFull)
	refused(0, nil, 1, api.ErrFull)
	refused(4096, row(0, 4096), 4097, api.ErrFull)
}

// P10.3: each row of few blocks, with each extent that lies in them and many that do not.
func TestClaimAndGiveAsTheWordsSay(t *testing.T) {
	for blocks := range 8 {
		eachFree(blocks, func(free []bool) {
			row := rowOf(free)
			for _, x := range extents(blocks + 1) {
				less, e := region.Claim(blocks, row, x)
				more, f := region.Give(blocks, row, x)
				if !isIn(blocks, x) {
					none(t, "Claim", less, e, api.ErrExtent)
					none(t, "Give", more, f, api.ErrExtent)
					continue
				}
				part := free[x.At : x.At+x.N]
				if slices.Contains(part, false) {
					none(t, "Claim", less, e, api.ErrTaken)
				} else {
					is(t, "Claim", less, e, rowOf(marked(free, x.At, x.N, false)))
				}
				if slices.Contains(part, true) {
					none(t, "Give", more, f, api.ErrTaken)
				} else {
					is(t, "Give", more, f, rowOf(marked(free, x.At, x.N, true)))
				}
			}
		})
	}
}

// P10.3
func TestClaimEdges(t *testing.T) {
	for _, c := range []struct {
		blocks int
		l      []api.Extent
		x      api.Extent
		want   []api.Extent
	}{
		{10, row(0, 10), api.Extent{At: 0, N: 10}, nil},
		{10, row(0, 10), api.Extent{At: 0, N: 1}, row(1, 9)},
		{10, row(0, 10), api.Extent{At: 9, N: 1}, row(0, 9)},
		{10, row(0, 10), api.Extent{At: 4, N: 1}, row(0, 4, 5, 5)},
		{10, row(0, 3, 5, 5), api.Extent{At: 6, N: 2}, row(0, 3, 5, 1, 8, 2)},
		{10, row(0, 3, 5, 1, 7, 3), api.Extent{At: 5, N: 1}, row(0, 3, 7, 3)},
		{4096, row(0, 4096), api.Extent{At: 0, N: 4096}, nil},
		{4096, row(0, 4096), api.Extent{At: 4095, N: 1}, row(0, 4095)},
		{1, row(0, 1), api.Extent{At: 0, N: 1}, nil},
	} {
		l, e := region.Claim(c.blocks, c.l, c.x)
		is(t, "Claim", l, e, c.want)
	}
	for _, x := range row(2, 2, 3, 1, 3, 2, 4, 2, 2, 4, 0, 10, 0, 4, 4, 6) {
		l, e := region.Claim(10, row(0, 3, 5, 5), x)
		none(t, "Claim", l, e, api.ErrTaken)
	}
	l, e := region.Claim(10, nil, api.Extent{At: 0, N: 1})
	none(t, "Claim of no row", l, e, api.ErrTaken)
}

// P10.3: what is given is joined with both that stand next to it, with one, with none.
func TestGiveEdges(t *testing.T) {
	for _, c := range []struct {
		blocks int
		l      []api.Extent
		x      api.Extent
		want   []api.Extent
	}{
		{10, row(0, 3, 5, 5), api.Extent{At: 3, N: 2}, row(0, 10)},
		{10, row(0, 3, 5, 5), api.Extent{At: 3, N: 1}, row(0, 4, 5, 5)},
		{10, row(0, 3, 5, 5), api.Extent{At: 4, N: 1}, row(0, 3, 4, 6)},
		{10, row(0, 3, 6, 4), api.Extent{At: 4, N: 1}, row(0, 3, 4, 1, 6, 4)},
		{10, row(2, 1), api.Extent{At: 0, N: 1}, row(0, 1, 2, 1)},
		{10, row(2, 1), api.Extent{At: 0, N: 2}, row(0, 3)},
		{10, row(2, 1), api.Extent{At: 9, N: 1}, row(2, 1, 9, 1)},
		{10, row(2, 1), api.Extent{At: 3, N: 7}, row(2, 8)},
		{10, nil, api.Extent{At: 0, N: 10}, row(0, 10)},
		{10, nil, api.Extent{At: 4, N: 1}, row(4, 1)},
		{1, nil, api.Extent{At: 0, N: 1}, row(0, 1)},
		{4096, nil, api.Extent{At: 0, N: 4096}, row(0, 4096)},
		{4096, row(0, 4095), api.Extent{At: 4095, N: 1}, row(0, 4096)},
		{4096, row(1, 4095), api.Extent{At: 0, N: 1}, row(0, 4096)},
		{20, row(0, 1, 2, 1, 4, 1, 8, 1), api.Extent{At: 5, N: 3}, row(0, 1, 2, 1, 4, 5)},
	} {
		l, e := region.Give(c.blocks, c.l, c.x)
		is(t, "Give", l, e, c.want)
	}
	for _, x := range row(0, 3, 2, 2, 2, 4, 4, 2, 9, 1, 0, 10, 1, 1, 5, 5) {
		l, e := region.Give(10, row(0, 3, 5, 5), x)
		none(t, "Give", l, e, api.ErrTaken)
	}
}

// P10.3: first Check's errors, then that the extent does not lie there, then what is taken.
func TestClaimAndGiveWrong(t *testing.T) {
	both := func(blocks int, l []api.Extent, x api.Extent, want api.Errno) {
		t.Helper()
		less, e := region.Claim(blocks, l, x)
		none(t, "Claim", less, e, want)
		more, e := region.Give(blocks, l, x)
		none(t, "Give", more, e, want)
	}
	outside := append(far(), row(9, 2, 10, 1, 0, 11, 10, 0, 0, 0, 3, 0, 3, -1, -1, 1, -1, 4, -5, 20)...)
	for _, x := range append(outside, row(0, 1, 0, 10)...) {
		for _, blocks := range wrongBlocks() {
			both(blocks, row(0, 3), x, api.ErrArg)
			both(blocks, row(0, 0), x, api.ErrArg)
		}
		for _, l := range append(wrongRows(), row(0, 11), row(10, 1)) {
			both(10, l, x, api.ErrExtent)
		}
		both(0, nil, x, api.ErrExtent)
	}
	for _, x := range outside {
		both(10, row(0, 3, 5, 5), x, api.ErrExtent)
		both(10, nil, x, api.ErrExtent)
		both(10, row(0, 10), x, api.ErrExtent)
	}
	for _, x := range row(0, 4097, 4096, 1, 4095, 2, 1, 4096) {
		both(4096, row(0, 4096), x, api.ErrExtent)
		both(4096, nil, x, api.ErrExtent)
	}
	both(10, row(0, 3, 5, 5), api.Extent{At: 2, N: 2}, api.ErrTaken)
	both(10, row(0, 3, 5, 5), api.Extent{At: 0, N: 10}, api.ErrTaken)
}

// P10.3
func TestOther(t *testing.T) {
	for blocks := range 10 {
		eachFree(blocks, func(free []bool) {
			taken := slices.Clone(free)
			for i, is := range free {
				taken[i] = !is
			}
			l, e := region.Other(blocks, rowOf(free))
			is(t, "Other", l, e, rowOf(taken))
		})
	}
	for _, c := range []struct {
		blocks  int
		l, want []api.Extent
	}{
		{0, nil, nil}, {1, nil, row(0, 1)}, {1, row(0, 1), nil}, {4096, nil, row(0, 4096)}, {4096, row(0, 4096), nil},
		{4096, row(0, 1), row(1, 4095)}, {4096, row(4095, 1), row(0, 4095)}, {10, row(0, 3, 5, 5), row(3, 2)},
	} {
		l, e := region.Other(c.blocks, c.l)
		is(t, "Other", l, e, c.want)
	}
	for _, blocks := range wrongBlocks() {
		l, e := region.Other(blocks, nil)
		none(t, "Other", l, e, api.ErrArg)
		l, e = region.Other(blocks, row(0, 0))
		none(t, "Other", l, e, api.ErrArg)
	}
	for _, x := range append(wrongRows(), row(0, 11), row(10, 1)) {
		l, e := region.Other(10, x)
		none(t, "Other", l, e, api.ErrExtent)
	}
}

// Rule 4: what is handed in is neither changed nor kept, and an answer is new memory, also where nothing of it had to change.
func TestNewMemory(t *testing.T) {
	spare := append(row(1, 3, 6, 2, 9, 1), row(77, 78, 79, 80)...)
	for name, f := range map[string]func([]api.Extent) []api.Extent{
		"Take":     func(l []api.Extent) []api.Extent { _, l, _ = region.Take(12, l, 2); return l },
		"Take all": func(l []api.Extent) []api.Extent { _, l, _ = region.Take(12, l, 3); return l },
		"Claim":    func(l []api.Extent) []api.Extent { l, _ = region.Claim(12, l, api.Extent{At: 9, N: 1}); return l },
		"Give":     func(l []api.Extent) []api.Extent { l, _ = region.Give(12, l, api.Extent{At: 11, N: 1}); return l },
		"Give at":  func(l []api.Extent) []api.Extent { l, _ = region.Give(12, l, api.Extent{At: 4, N: 2}); return l },
		"Other":    func(l []api.Extent) []api.Extent { l, _ = region.Other(12, l); return l },
	} {
		all := slices.Clone(spare)
		one, two := f(all[:3]), f(all[:3])
		if !slices.Equal(all, spare) {
			t.Errorf("%s changed what it was given: %v", name, all)
		}
		want := slices.Clone(one)
		clear(two[:cap(two)])
		clear(all)
		if len(want) == 0 || !slices.Equal(one, want) {
			t.Errorf("%s: %v hangs on other lists", name, one)
		}
	}
	one, _ := region.All(9)
	clear(one)
	if two, e := region.All(9); e != api.OK || !slices.Equal(two, row(0, 9)) {
		t.Errorf("All: %v, %d", two, e)
	}
}
