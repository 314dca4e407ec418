package window_test

import (
	"math"
	"testing"

	"saltern/api"
	"saltern/window"
)

// P19.4: NewTaker, Take, Acks, Void.

func TestNewTaker(t *testing.T) {
	for _, size := range goodSizes() {
		told(t, taker(t, size), 0, 0)
	}
	for _, size := range badSizes() {
		if r, e := window.NewTaker(size); r != nil || e != api.ErrWindow {
			t.Errorf("NewTaker(%d): %v, %d", size, r, e)
		}
	}
}

func TestNewTakersAreTheirOwn(t *testing.T) {
	a, b := taker(t, 4), taker(t, 4)
	takes(t, a, 1, 1)
	takes(t, a, 3)
	told(t, b, 0, 0)
	takes(t, b, 2)
	takes(t, b, 1, 1, 2)
	told(t, a, 1, 1)
}

func TestTakeOfWhatItWaitsFor(t *testing.T) {
	for _, size := range goodSizes() {
		r := taker(t, size)
		for n := 1; n <= 200; n++ {
			takes(t, r, n, n)
			told(t, r, n, 0)
		}
	}
}

func TestTakeAheadOfTheTurn(t *testing.T) {
	r := taker(t, 4)
	takes(t, r, 3)
	told(t, r, 0, 1<<1)
	takes(t, r, 2)
	told(t, r, 0, 1<<0|1<<1)
	takes(t, r, 1, 1, 2, 3)
	told(t, r, 3, 0)
	takes(t, r, 5)
	takes(t, r, 7)
	told(t, r, 3, 1<<0|1<<2)
	takes(t, r, 4, 4, 5) // 6 is not there
	told(t, r, 5, 1<<0)
	takes(t, r, 6, 6, 7)
	told(t, r, 7, 0)
}

func TestTakeTwice(t *testing.T) {
	r := taker(t, 4)
	takes(t, r, 2)
	takes(t, r, 2)
	told(t, r, 0, 1)
	if l, e := r.Take(api.Payload{N: 2, B: []byte("another")}); len(l) != 0 || e != api.OK {
		t.Errorf("Take: %v, %d", l, e)
	}
	takes(t, r, 1, 1, 2) // the first one's bytes
	takes(t, r, 1)
	takes(t, r, 2)
	told(t, r, 2, 0)
	takes(t, r, 3, 3)
}

func TestTakeOfWhatWasHandedOn(t *testing.T) {
	for _, size := range goodSizes() {
		r := taker(t, size)
		for n := 1; n <= 100; n++ {
			takes(t, r, n, n)
		}
		for n := 1; n <= 100; n++ { // however far behind
			takes(t, r, n)
			told(t, r, 100, 0)
		}
		takes(t, r, 101, 101)
	}
}

func TestTakeAtTheBound(t *testing.T) {
	for _, size := range goodSizes() {
		for waits := 1; waits < 6; waits++ {
			r := taker(t, size)
			for n := 1; n < waits; n++ {
				takes(t, r, n, n)
			}
			for _, n := range []int{waits + size, waits + size + 1, waits + size + 64, 1 << 40, math.MaxInt} {
				ahead(t, r, n)
			}
			told(t, r, waits-1, 0)
			if last := waits + size - 1; last == waits {
				takes(t, r, last, last)
			} else { // the last one that its size allows
				takes(t, r, last)
				told(t, r, waits-1, 1<<(size-2))
				ahead(t, r, last+1)
			}
		}
	}
}

func TestTakeOfANumberBelowOne(t *testing.T) {
	r := taker(t, 4)
	for range 2 {
		for _, n := range []int{0, -1, -63, -64, -1 << 40, math.MinInt + 63, math.MinInt} {
			ahead(t, r, n)
		}
		takes(t, r, 3)
		told(t, r, 0, 2)
	}
	takes(t, r, 1, 1)
	ahead(t, r, 0)
	ahead(t, r, math.MinInt)
	told(t, r, 1, 1)
}

func TestATakeThatIsRefusedLeavesTheTaker(t *testing.T) {
	r := taker(t, 3)
	takes(t, r, 2)
	for _, n := range []int{4, 5, 0, -1, math.MaxInt, math.MinInt} {
		ahead(t, r, n)
		told(t, r, 0, 1)
	}
	takes(t, r, 1, 1, 2)
	told(t, r, 2, 0) // 4 and 5 are not there
	takes(t, r, 3, 3)
	takes(t, r, 4, 4)
	takes(t, r, 5, 5)
}

func TestTheBoundGoesOn(t *testing.T) {
	r := taker(t, 3)
	ahead(t, r, 4)
	takes(t, r, 1, 1)
	takes(t, r, 4)
	ahead(t, r, 5)
	takes(t, r, 3)
	ahead(t, r, 5) // 3 and 4 are there, but it waits for 2
	takes(t, r, 2, 2, 3, 4)
	takes(t, r, 7)
	ahead(t, r, 8)
}

func TestAllAheadOfTheFirst(t *testing.T) {
	for _, size := range goodSizes() {
		r := taker(t, size)
		var more uint64
		var want []int
		for n := size; n > 1; n-- {
			takes(t, r, n)
			more |= 1 << (n - 2)
			told(t, r, 0, more)
		}
		for n := 1; n <= size; n++ {
			want = append(want, n)
		}
		takes(t, r, 1, want...)
		told(t, r, size, 0)
	}
}

func TestAcksWithGaps(t *testing.T) {
	r := taker(t, 64)
	for n := 1; n <= 10; n++ {
		takes(t, r, n, n)
	}
	for _, n := range []int{74, 12, 14, 40} {
		takes(t, r, n)
	}
	told(t, r, 10, 1<<0|1<<2|1<<28|1<<62)
	takes(t, r, 11, 11, 12)
	told(t, r, 12, 1<<0|1<<26|1<<60)
	takes(t, r, 13, 13, 14)
	told(t, r, 14, 1<<24|1<<58)
	takes(t, r, 76)
	told(t, r, 14, 1<<24|1<<58|1<<60)
}

func TestAcksChangesNothing(t *testing.T) {
	r := taker(t, 4)
	takes(t, r, 3)
	for range 3 {
		told(t, r, 0, 2)
	}
	takes(t, r, 1, 1)
	for range 3 {
		told(t, r, 1, 1)
	}
	takes(t, r, 2, 2, 3)
}

// hands takes a payload of one byte; of those that are handed on, these are to have none.
func hands(t *testing.T, r *window.Taker, n int, voids map[int]int, want int) {
	t.Helper()
	l, e := r.Take(api.Payload{N: n, B: []byte{byte(n)}})
	if e != api.OK || len(l) != want {
		t.Errorf("Take of %d: %v, %d", n, l, e)
	}
	for _, p := range l {
		if len(p.B) != 1-voids[p.N] || len(p.B) == 1 && p.B[0] != byte(p.N) {
			t.Errorf("Take of %d: %v", n, p)
		}
	}
}

func TestVoidOfATaker(t *testing.T) {
	r := taker(t, 8)
	voided := func() {
		t.Helper()
		if e := r.Void(); e != api.OK {
			t.Errorf("Void: %d", e)
		}
	}
	voided() // none is there
	told(t, r, 0, 0)
	takes(t, r, 1, 1)
	takes(t, r, 3)
	takes(t, r, 5)
	voided()
	told(t, r, 1, 1<<0|1<<2) // they are there
	takes(t, r, 3)           // so another one is let go
	takes(t, r, 4)
	hands(t, r, 2, map[int]int{3: 1, 5: 1}, 4)
	told(t, r, 5, 0)
	takes(t, r, 7)
	voided()
	voided()
	hands(t, r, 6, map[int]int{7: 1}, 2)
	takes(t, r, 8, 8)
}

func TestVoidOfAFullTaker(t *testing.T) {
	r := taker(t, 64)
	voids := map[int]int{}
	for n := 2; n <= 64; n++ {
		takes(t, r, n)
		voids[n] = 1
	}
	if e := r.Void(); e != api.OK {
		t.Errorf("Void: %d", e)
	}
	told(t, r, 0, 1<<63-1)
	hands(t, r, 1, voids, 64)
}

func TestTakeOfNoBytes(t *testing.T) {
	r := taker(t, 4)
	for _, p := range []api.Payload{{N: 2}, {N: 3, B: []byte{}}, {N: 2, B: []byte("x")}} {
		if l, e := r.Take(p); len(l) != 0 || e != api.OK {
			t.Errorf("Take of %v: %v, %d", p, l, e)
		}
	}
	told(t, r, 0, 3)
	l, e := r.Take(api.Payload{N: 1})
	if e != api.OK || !alike(l, []api.Payload{{N: 1}, {N: 2}, {N: 3}}) {
		t.Errorf("Take: %v, %d", l, e)
	}
}

func TestATakerThatNobodyMade(t *testing.T) {
	for i, r := range nobodyTakers() {
		for range 2 {
			for _, n := range []int{1, 0, -1, 65, math.MaxInt} {
				if l, e := r.Take(api.Payload{N: n}); l != nil || e != api.ErrNil {
					t.Errorf("%d: Take of %d: %v, %d", i, n, l, e)
				}
			}
			told(t, r, 0, 0)
			if e := r.Void(); e != api.ErrNil {
				t.Errorf("%d: Void: %d", i, e)
			}
		}
	}
}

func TestATakerThatIsCopiedIsTheSame(t *testing.T) {
	r := taker(t, 4)
	c := *r
	takes(t, &c, 2)
	takes(t, r, 1, 1, 2)
	told(t, &c, 2, 0)
	takes(t, &c, 3, 3)
	told(t, r, 3, 0)
}

// Rule 4: what is handed in is neither changed nor kept; an answer is new memory.

func TestTakeKeepsNothing(t *testing.T) {
	r := taker(t, 4)
	b := []byte("hello")
	if l, e := r.Take(api.Payload{N: 2, B: b[:3]}); len(l) != 0 || e != api.OK {
		t.Errorf("Take: %v, %d", l, e)
	}
	clear(b)
	c := []byte("first")
	l, e := r.Take(api.Payload{N: 1, B: c[:4]})
	if want := []api.Payload{{N: 1, B: []byte("firs")}, {N: 2, B: []byte("hel")}}; e != api.OK || !alike(l, want) {
		t.Fatalf("Take: %v, %d", l, e)
	}
	_ = append(l[0].B, "xyz"...)
	clear(l[0].B)
	if string(c) != "first" || string(l[1].B) != "hel" {
		t.Errorf("the argument is %q, the other one %q", c, l[1].B)
	}
}

// The chapter's example.

func TestExample(t *testing.T) {
	s := made(t, 2, 5, 3)
	dues(t, s, 0, 1, 2)
	r := taker(t, 2)
	takes(t, r, 2)
	told(t, r, 0, 1)
	takes(t, r, 1, 1, 2)
	told(t, r, 2, 0)
}
