package region

import (
	"iter"

	"saltern/api"
)

// each goes through rows, one behind another.
func each(rows ...[]api.Extent) iter.Seq[api.Extent] {
	return func(yield func(api.Extent) bool) {
		for _, l := range rows {
			for _, x := range l {
				if !yield(x) {
					return
				}
			}
		}
	}
}

// putter is a closure over a row: it puts the blocks from one place up to
// another behind those of the row, so that extents that touch become one and
// places without a block between them none.
func putter(row *[]api.Extent) func(from, to int) {
	return func(from, to int) {
		last := len(*row) - 1
		switch {
		case from >= to:
		case last >= 0 && end((*row)[last]) == from:
			(*row)[last].N += to - from
		default:
			*row = append(*row, api.Extent{At: from, N: to - from})
		}
	}
}

// lies takes the extent from the blocks, for At and N together may pass an int.
func lies(blocks int, x api.Extent) bool {
	return x.At >= 0 && x.N >= 1 && x.N <= blocks-x.At
}

// end is the place behind an extent that lies in some blocks.
func end(x api.Extent) int { return x.At + x.N }

// holds tells whether one extent of a row has all blocks of e.
func holds(l []api.Extent, e api.Extent) bool {
	for x := range each(l) {
		if x.At <= e.At && end(e) <= end(x) {
			return true
		}
	}
	return false
}

// meets tells whether an extent of a row has a block of e.
func meets(l []api.Extent, e api.Extent) bool {
	for x := range each(l) {
		if x.At < end(e) && e.At < end(x) {
			return true
		}
	}
	return false
}

// without is a row without the blocks of e.
func without(l []api.Extent, e api.Extent) []api.Extent {
	var row []api.Extent
	put := putter(&row)
	for x := range each(l) {
		put(x.At, min(end(x), e.At))
		put(max(x.At, end(e)), end(x))
	}
	return row
}

// with is a row with the blocks of e, none of which it has.
func with(l []api.Extent, e api.Extent) []api.Extent {
	ahead := 0
	for x := range each(l) {
		if x.At > e.At {
			break
		}
		ahead++
	}
	var row []api.Extent
	put := putter(&row)
	for x := range each(l[:ahead], []api.Extent{e}, l[ahead:]) {
		put(x.At, end(x))
	}
	return row
}

// between is the row of the blocks that a row does not have.
func between(blocks int, l []api.Extent) []api.Extent {
	var row []api.Extent
	put := putter(&row)
	at := 0
	for x := range each(l) {
		put(at, x.At)
		at = end(x)
	}
	put(at, blocks)
	return row
}
