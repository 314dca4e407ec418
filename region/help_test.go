package region_test

import (
	"math"
	"math/big"
	"slices"
	"testing"

	"saltern/api"
	"saltern/region"
)

// chance is numbers without a pattern, always the same ones.
type chance uint64

func (c *chance) below(n int) int {
	*c = *c*6364136223846793005 + 1442695040888963407
	return int(uint64(*c)>>33) % n
}

// free is which of n blocks are free: with runs of at most most blocks each.
func (c *chance) free(n, most int) []bool {
	var l []bool
	for len(l) < n {
		l = append(l, slices.Repeat([]bool{c.below(2) == 0}, 1+c.below(most))...)
	}
	return l[:n]
}

// row writes extents as pairs of At and N.
func row(numbers ...int) []api.Extent {
	var l []api.Extent
	for i := 0; i < len(numbers); i += 2 {
		l = append(l, api.Extent{At: numbers[i], N: numbers[i+1]})
	}
	return l
}

// rowOf is the row of the blocks that are free, by the word's meaning: runs without a block more at either end.
func rowOf(free []bool) []api.Extent {
	var l []api.Extent
	for i, is := range free {
		switch {
		case !is:
		case i > 0 && free[i-1]:
			l[len(l)-1].N++
		default:
			l = append(l, api.Extent{At: i, N: 1})
		}
	}
	return l
}

// freeOf is which of n blocks a row has.
func freeOf(n int, l []api.Extent) []bool {
	free := make([]bool, n)
	for _, x := range l {
		for i := range x.N {
			free[x.At+i] = true
		}
	}
	return free
}

// isIn is the word lies, in numbers without bound.
func isIn(blocks int, x api.Extent) bool {
	both := new(big.Int).Add(big.NewInt(int64(x.At)), big.NewInt(int64(x.N)))
	return x.At >= 0 && x.N >= 1 && both.Cmp(big.NewInt(int64(blocks))) <= 0
}

// mayBe tells whether a row may be a free one: of each two, the later one begins behind a block that is in neither.
func mayBe(blocks int, l []api.Extent) bool {
	for i, x := range l {
		if !isIn(blocks, x) {
			return false
		}
		for _, y := range l[:i] {
			if x.At <= y.At || y.At+y.N >= x.At {
				return false
			}
		}
	}
	return true
}

// some are all lists of at most most extents with numbers from -1 to last.
func some(most, last int) [][]api.Extent {
	all := [][]api.Extent{nil}
	for from, n := 0, 1; n <= most; n++ {
		to := len(all)
		for _, l := range all[from:to] {
			for _, x := range extents(last) {
				all = append(all, append(slices.Clone(l), x))
			}
		}
		from = to
	}
	return all
}

// extents are all with numbers from -1 to last.
func extents(last int) []api.Extent {
	var l []api.Extent
	for at := -1; at <= last; at++ {
		for n := -1; n <= last; n++ {
			l = append(l, api.Extent{At: at, N: n})
		}
	}
	return l
}

// eachFree calls f with all ways in which n blocks may be free.
func eachFree(n int, f func([]bool)) {
	for bits := range 1 << n {
		free := make([]bool, n)
		for i := range free {
			free[i] = bits>>i&1 == 1
		}
		f(free)
	}
}

// far are extents that lie in no blocks, for a number of theirs, or both together, pass all bounds.
func far() []api.Extent {
	return []api.Extent{
		{At: math.MaxInt, N: 1}, {At: 1, N: math.MaxInt}, {At: 0, N: math.MaxInt},
		{At: math.MaxInt, N: math.MaxInt}, {At: math.MinInt, N: math.MinInt}, {At: math.MinInt, N: 1},
		{At: math.MinInt, N: math.MaxInt}, {At: math.MaxInt, N: math.MinInt}, {At: 5, N: math.MinInt},
		{At: math.MaxInt - 1, N: 3}, {At: 3, N: math.MaxInt - 1}, {At: math.MaxInt / 2, N: math.MaxInt/2 + 3},
	}
}

// wrongBlocks are no numbers of blocks.
func wrongBlocks() []int {
	return []int{-1, 4097, -4096, 1 << 20, math.MaxInt, math.MinInt}
}

// wrongRows are no free rows of ten blocks, nor of any.
func wrongRows() [][]api.Extent {
	l := [][]api.Extent{
		row(0, 3, 3, 1), row(0, 3, 2, 2), row(5, 2, 0, 3), row(2, 2, 2, 2), row(0, 5, 1, 2), row(0, 0), row(3, -1),
		row(-1, 3), row(-1, 1), row(0, 1, 2, 0), row(4, 1, 1, 1, 7, 1), row(0, 1, 2, 1, 3, 1),
	}
	for _, x := range far() {
		l = append(l, []api.Extent{x}, append(row(0, 1), x), append([]api.Extent{x}, row(4, 1)...))
	}
	return l
}

func wantErr(t *testing.T, what string, got, want api.Errno) {
	t.Helper()
	if got != want {
		t.Errorf("%s: %d, not %d", what, got, want)
	}
}

// is asks for a row without an error.
func is(t *testing.T, what string, got []api.Extent, e api.Errno, want []api.Extent) {
	t.Helper()
	if e != api.OK || !slices.Equal(got, want) {
		t.Errorf("%s: %v, %d, not %v", what, got, e, want)
	}
}

// none asks for an error and no row.
func none(t *testing.T, what string, got []api.Extent, e, want api.Errno) {
	t.Helper()
	if e != want || len(got) != 0 {
		t.Errorf("%s: %v, %d, not %d", what, got, e, want)
	}
}

func given(t *testing.T, blocks int, l []api.Extent, x api.Extent) []api.Extent {
	t.Helper()
	l, e := region.Give(blocks, l, x)
	if e != api.OK {
		t.Fatalf("Give(%d, %v): %d", blocks, x, e)
	}
	return l
}

func claimed(t *testing.T, blocks int, l []api.Extent, x api.Extent) []api.Extent {
	t.Helper()
	l, e := region.Claim(blocks, l, x)
	if e != api.OK {
		t.Fatalf("Claim(%d, %v): %d", blocks, x, e)
	}
	return l
}

func taken(t *testing.T, blocks int, l []api.Extent, n int) (api.Extent, []api.Extent) {
	t.Helper()
	x, l, e := region.Take(blocks, l, n)
	if e != api.OK {
		t.Fatalf("Take(%d, %d): %d", blocks, n, e)
	}
	return x, l
}

func other(t *testing.T, blocks int, l []api.Extent) []api.Extent {
	t.Helper()
	l, e := region.Other(blocks, l)
	if e != api.OK {
		t.Fatalf("Other(%d): %d", blocks, e)
	}
	return l
}
