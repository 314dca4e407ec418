package names_test

import (
	"math"
	"slices"
	"testing"

	"saltern/api"
)

// P15.3: the chapter's example.
func TestSeekExample(t *testing.T) {
	n := of(t, put(1, "f", sized(1, 3, 5, 2)...))
	got, e := n.Seek("f", 2, 4)
	want := []api.Part{{D: digest(1), N: 3, From: 2, To: 3}, {D: digest(2), N: 5, From: 0, To: 3}}
	if e != api.OK || !slices.Equal(got, want) {
		t.Errorf("%v, %d", got, e)
	}
	if got, e := n.Seek("f", 10, 0); e != api.OK || len(got) != 0 {
		t.Errorf("none at the end: %v, %d", got, e)
	}
	if got, e := n.Seek("f", 10, 1); e != api.ErrRange || got != nil {
		t.Errorf("one behind the end: %v, %d", got, e)
	}
}

// P15.3: all bytes, none, at the bounds of pieces and within one.
func TestSeekByHand(t *testing.T) {
	n := of(t, put(1, "f", sized(1, 3, 5, 2)...))
	part := func(k, size, from, to int) api.Part {
		return api.Part{D: digest(k), N: size, From: from, To: to}
	}
	for _, c := range []struct {
		what       string
		from, size int
		want       []api.Part
	}{
		{"all", 0, 10, []api.Part{part(1, 3, 0, 3), part(2, 5, 0, 5), part(3, 2, 0, 2)}},
		{"none at 0", 0, 0, nil},
		{"none within a piece", 5, 0, nil},
		{"none at a bound", 3, 0, nil},
		{"none at the end", 10, 0, nil},
		{"the first piece", 0, 3, []api.Part{part(1, 3, 0, 3)}},
		{"the second piece", 3, 5, []api.Part{part(2, 5, 0, 5)}},
		{"the last piece", 8, 2, []api.Part{part(3, 2, 0, 2)}},
		{"two pieces", 3, 7, []api.Part{part(2, 5, 0, 5), part(3, 2, 0, 2)}},
		{"within one", 4, 2, []api.Part{part(2, 5, 1, 3)}},
		{"one byte ahead of a bound", 2, 1, []api.Part{part(1, 3, 2, 3)}},
		{"one byte behind a bound", 3, 1, []api.Part{part(2, 5, 0, 1)}},
		{"one byte on each side", 7, 2, []api.Part{part(2, 5, 4, 5), part(3, 2, 0, 1)}},
		{"the first byte", 0, 1, []api.Part{part(1, 3, 0, 1)}},
		{"the last byte", 9, 1, []api.Part{part(3, 2, 1, 2)}},
		{"all but both ends", 1, 8, []api.Part{part(1, 3, 1, 3), part(2, 5, 0, 5), part(3, 2, 0, 1)}},
	} {
		if got, e := n.Seek("f", c.from, c.size); e != api.OK || !slices.Equal(got, c.want) {
			t.Errorf("%s: %v, %d, not %v", c.what, got, e, c.want)
		}
	}
}

// P15.3: each place and size of small files, and those around them.
func TestSeekOfEachRange(t *testing.T) {
	for _, sizes := range [][]int{{}, {1}, {6}, {1, 1}, {1, 1, 1, 1}, {3, 5, 2}, {2, 1, 4, 1}, {5, 1}, {1, 5}, {1, 2, 3, 4, 5}} {
		l := done{put(1, "f", sized(0, sizes...)...), put(2, "g", sized(9, 20)...)}
		n := of(t, l...)
		f, _ := l.file("f")
		for from := -2; from <= f.Size+2; from++ {
			for size := -2; size <= f.Size+2; size++ {
				seeks(t, n, l, "f", from, size)
			}
		}
	}
}

// P15.3: pieces that are alike, one behind the other.
func TestSeekOfOnePieceAgainAndAgain(t *testing.T) {
	p := api.Piece{D: digest(4), N: 3}
	l := done{put(1, "f", p, p, api.Piece{D: digest(4), N: 1}, p)}
	n := of(t, l...)
	for from := range 11 {
		for size := range 11 - from {
			seeks(t, n, l, "f", from, size)
		}
	}
}

// P15.3: the greatest file, of the fewest and of the most pieces.
func TestSeekOfTheGreatestFiles(t *testing.T) {
	l := done{
		put(1, "few", sized(0, slices.Repeat([]int{4096}, 256)...)...),
		put(2, "many", sized(0, slices.Repeat([]int{256}, 4096)...)...),
		put(3, "ones", sized(0, slices.Repeat([]int{1}, 4096)...)...),
	}
	n := of(t, l...)
	for _, f := range l.files() {
		end, step := f.Size, f.Pieces[0].N
		for _, c := range [][2]int{
			{0, end}, {0, end + 1}, {1, end - 1}, {1, end}, {end, 0}, {end, 1}, {end + 1, 0}, {end - 1, 1}, {end - 1, 2},
			{step, step}, {step - 1, step + 2}, {end - step, step}, {end - step - 1, 1}, {end / 2, 0}, {end/2 - 1, 2}, {0, 1},
		} {
			seeks(t, n, l, f.Path, c[0], c[1])
		}
	}
}

// P15.3: from and size that may not be, also where their sum is beyond an int.
func TestSeekBeyond(t *testing.T) {
	n := of(t, put(1, "f", sized(1, 3, 5, 2)...), put(2, "none"))
	for _, path := range []string{"f", "none"} {
		for _, c := range [][2]int{
			{-1, 0}, {-1, 1}, {0, -1}, {5, -1}, {10, -1}, {11, -1}, {-1, -1}, {-1, 11}, {0, 11}, {11, 0}, {11, 1}, {10, 1}, {9, 2}, {1, 10},
			{math.MaxInt, 0}, {0, math.MaxInt}, {math.MaxInt, math.MaxInt}, {math.MaxInt, 1}, {1, math.MaxInt}, {10, math.MaxInt}, {math.MaxInt, 10},
			{math.MinInt, 0}, {0, math.MinInt}, {math.MinInt, math.MinInt}, {math.MaxInt, math.MinInt}, {math.MinInt, math.MaxInt},
			{math.MaxInt/2 + 1, math.MaxInt/2 + 1}, {math.MaxInt - 4, 5}, {math.MaxInt - 4, 6}, {-5, math.MaxInt}, {1 << 62, 1 << 62},
		} {
			if got, e := n.Seek(path, c[0], c[1]); e != api.ErrRange || got != nil {
				t.Errorf("%s, %d, %d: %v, %d", path, c[0], c[1], got, e)
			}
		}
	}
	if got, e := n.Seek("none", 0, 0); e != api.OK || len(got) != 0 {
		t.Errorf("of a file of no pieces: %v, %d", got, e)
	}
}

// P15.3: that there is no file is told ahead of a wrong place.
func TestSeekOfNoFile(t *testing.T) {
	n := of(t, put(1, "dir/f", sized(1, 3)...), put(2, "g"), del(3, "g"))
	for _, path := range []string{"", "g", "dir", "dir/", "dir/f/", "F", " "} {
		for _, c := range [][2]int{{0, 0}, {0, 1}, {-1, 0}, {0, -1}, {math.MaxInt, math.MaxInt}} {
			if got, e := n.Seek(path, c[0], c[1]); e != api.ErrNoFile || got != nil {
				t.Errorf("%q, %d, %d: %v, %d", path, c[0], c[1], got, e)
			}
		}
	}
}

// P15.3: places are those of the file that was put last.
func TestSeekOfAFilePutAgain(t *testing.T) {
	l := done{put(1, "f", sized(1, 3, 5, 2)...), put(2, "f", sized(7, 2, 2)...)}
	n := of(t, l...)
	for from := -1; from < 11; from++ {
		for size := -1; size < 11; size++ {
			seeks(t, n, l, "f", from, size)
			seeks(t, n.Copy(), l, "f", from, size)
		}
	}
}
