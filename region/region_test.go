package region_test

import (
	"math"
	"slices"
	"testing"

	"saltern/api"
	"saltern/region"
)

// P10.1
func TestCheckAsTheWordsSay(t *testing.T) {
	for _, l := range some(3, 4) {
		for blocks := range 6 {
			want := api.ErrExtent
			if mayBe(blocks, l) {
				want = api.OK
			}
			if e := region.Check(blocks, l); e != want {
				t.Fatalf("Check(%d, %v): %d, not %d", blocks, l, e, want)
			}
		}
	}
}

// P10.1
func TestCheckEdges(t *testing.T) {
	good := []struct {
		blocks int
		l      []api.Extent
	}{
		{0, nil}, {0, row()}, {4096, nil}, {4096, row(0, 4096)}, {4096, row(4095, 1)}, {4096, row(0, 1)}, {1, row(0, 1)},
		{4096, row(0, 1, 4095, 1)}, {10, row(0, 3, 5, 5)}, {10, row(0, 3, 4, 1)}, {10, row(9, 1)}, {4096, row(0, 4094, 4095, 1)},
	}
	for _, c := range good {
		if e := region.Check(c.blocks, c.l); e != api.OK {
			t.Errorf("Check(%d, %v): %d", c.blocks, c.l, e)
		}
	}
	bad := []struct {
		blocks int
		l      []api.Extent
	}{
		{0, row(0, 1)}, {0, row(0, 0)}, {4096, row(0, 4097)}, {4096, row(4096, 1)}, {4096, row(4095, 2)}, {4096, row(1, 4096)},
		{10, row(0, 11)}, {10, row(10, 1)}, {10, row(9, 2)}, {10, row(10, 0)}, {4096, row(0, 4095, 4095, 1)},
	}
	for _, c := range bad {
		wantErr(t, "Check", region.Check(c.blocks, c.l), api.ErrExtent)
	}
	for _, l := range wrongRows() {
		for _, blocks := range []int{0, 10, 4096} {
			if e := region.Check(blocks, l); e != api.ErrExtent {
				t.Errorf("Check(%d, %v): %d", blocks, l, e)
			}
		}
	}
}

// P10.1: every second block is a free row of as many extents as there may be.
func TestCheckMany(t *testing.T) {
	var l []api.Extent
	for i := range 2048 {
		l = append(l, api.Extent{At: 2 * i, N: 1})
	}
	wantErr(t, "2048 extents", region.Check(4096, l), api.OK)
	wantErr(t, "the last one outside", region.Check(4094, l), api.ErrExtent)
	if n, e := region.Sum(l); n != 2048 || e != api.OK {
		t.Errorf("Sum: %d, %d", n, e)
	}
	l = append(l, api.Extent{At: 4096, N: 1})
	wantErr(t, "2049 extents", region.Check(4096, l), api.ErrExtent)
	if n, e := region.Sum(l); n != 0 || e != api.ErrExtent {
		t.Errorf("Sum: %d, %d", n, e)
	}
}

// P10.1: wrong blocks come ahead of a wrong row.
func TestWrongBlocks(t *testing.T) {
	rows := append(wrongRows(), nil, row(0, 1))
	for _, blocks := range wrongBlocks() {
		for _, l := range rows {
			wantErr(t, "Check", region.Check(blocks, l), api.ErrArg)
		}
		l, e := region.All(blocks)
		none(t, "All", l, e, api.ErrArg)
	}
}

// P10.1
func TestAll(t *testing.T) {
	l, e := region.All(0)
	is(t, "All(0)", l, e, nil)
	for blocks := 1; blocks <= 4096; blocks++ {
		l, e := region.All(blocks)
		is(t, "All", l, e, row(0, blocks))
	}
}

// P10.1: a row is summed up as one of 4096 blocks.
func TestSum(t *testing.T) {
	for _, c := range []struct {
		l []api.Extent
		n int
	}{{nil, 0}, {row(0, 1), 1}, {row(0, 4096), 4096}, {row(4095, 1), 1}, {row(0, 3, 5, 5), 8}, {row(0, 4094, 4095, 1), 4095}} {
		if n, e := region.Sum(c.l); n != c.n || e != api.OK {
			t.Errorf("Sum(%v): %d, %d", c.l, n, e)
		}
	}
	for _, l := range append(wrongRows(), row(0, 4097), row(4096, 1), row(4095, 2), row(0, 1, 4095, 2)) {
		if n, e := region.Sum(l); n != 0 || e != api.ErrExtent {
			t.Errorf("Sum(%v): %d, %d", l, n, e)
		}
	}
	eachFree(9, func(free []bool) {
		want := 0
		for _, is := range free {
			if is {
				want++
			}
		}
		if n, e := region.Sum(rowOf(free)); n != want || e != api.OK {
			t.Errorf("Sum(%v): %d, %d", rowOf(free), n, e)
		}
	})
}

// P10.1
func TestHasAsTheWordsSay(t *testing.T) {
	eachFree(7, func(free []bool) {
		l := rowOf(free)
		for _, x := range extents(9) {
			want := isIn(7, x) && !slices.Contains(free[x.At:x.At+x.N], false)
			if got := region.Has(l, x); got != want {
				t.Fatalf("Has(%v, %v): %v", l, x, got)
			}
		}
	})
}

// P10.1: of rows and extents of 4096 blocks; of others none.
func TestHasEdges(t *testing.T) {
	all := row(0, 4096)
	for _, x := range row(0, 1, 0, 4096, 4095, 1, 1, 4095, 7, 9) {
		if !region.Has(all, x) {
			t.Errorf("Has(all, %v): false", x)
		}
		if region.Has(nil, x) {
			t.Errorf("Has(none, %v): true", x)
		}
	}
	for _, x := range append(far(), row(0, 4097, 4096, 1, 4095, 2, 0, 0, 5, 0, 5, -1, -1, 2, -1, 1, 4096, 0, 1, 4096)...) {
		if region.Has(all, x) || region.Has([]api.Extent{x}, x) {
			t.Errorf("Has(%v): true", x)
		}
	}
	for _, l := range append(wrongRows(), row(0, 4097), row(0, 2, 4096, 1), row(2, 3, 0, 1)) {
		for _, x := range extents(5) {
			if region.Has(l, x) {
				t.Errorf("Has(%v, %v): true", l, x)
			}
		}
	}
	if region.Has(row(0, 3, 4, 3), api.Extent{At: 2, N: 3}) {
		t.Error("an extent that lies in two, and between them")
	}
}

// P10.1: Greatest takes extents of any kind, and goes by N alone.
func TestGreatest(t *testing.T) {
	least, most := math.MinInt, math.MaxInt
	for _, c := range []struct {
		l    []api.Extent
		want api.Extent
	}{
		{nil, api.Extent{}},
		{row(3, 1), api.Extent{At: 3, N: 1}},
		{row(0, 3, 5, 5), api.Extent{At: 5, N: 5}},
		{row(0, 5, 6, 5, 12, 5), api.Extent{At: 0, N: 5}},
		{row(0, 1, 6, 5, 12, 5, 20, 4), api.Extent{At: 6, N: 5}},
		{row(12, 5, 6, 5), api.Extent{At: 12, N: 5}},
		{row(3, 0, 4, -1, 5, least), api.Extent{}},
		{row(3, 0, 4, 1, 5, -7), api.Extent{At: 4, N: 1}},
		{row(-9, 2, 4, 1), api.Extent{At: -9, N: 2}},
		{row(0, 4096, least, most, most, most), api.Extent{At: least, N: most}},
		{row(7, 0), api.Extent{}},
	} {
		if x := region.Greatest(c.l); x != c.want {
			t.Errorf("Greatest(%v): %v, not %v", c.l, x, c.want)
		}
	}
	for _, l := range some(3, 3) {
		want := api.Extent{}
		for i := len(l) - 1; i >= 0; i-- {
			if l[i].N >= 1 && l[i].N >= want.N {
				want = l[i]
			}
		}
		if x := region.Greatest(l); x != want {
			t.Fatalf("Greatest(%v): %v, not %v", l, x, want)
		}
	}
}
