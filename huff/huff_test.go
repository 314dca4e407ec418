package huff_test

import (
	"fmt"
	"math"
	"slices"
	"strings"
	"testing"

	"saltern/api"
	"saltern/huff"
)

// chance is numbers without a pattern, always the same ones.
type chance uint64

func (c *chance) below(n int) int {
	*c = *c*6364136223846793005 + 1442695040888963407
	return int(uint64(*c)>>33) % n
}

func repeat(x, n int) []int { return slices.Repeat([]int{x}, n) }

// fib is counts whose tree is as deep as can be: n - 1.
func fib(n int) []int {
	var l []int
	for a, b := 1, 1; len(l) < n; a, b = b, min(a+b, api.MaxCount) {
		l = append(l, a)
	}
	return l
}

// stairs is one length each from 1 to n, and n once more.
func stairs(n int) []int {
	var l []int
	for i := range n {
		l = append(l, i+1)
	}
	return append(l, n)
}

// one is n numbers, all 0 but the one at that place.
func one(n, at, x int) []int {
	l := make([]int, n)
	l[at] = x
	return l
}

// wordedDepths are how deep symbols are, by the chapter's words: nodes as lists of their symbols, the least ones sought among all.
func wordedDepths(counts []int) []int {
	type part struct {
		weight  int
		symbols []int
	}
	var free []part
	for s, c := range counts {
		if c != 0 {
			free = append(free, part{c, []int{s}})
		}
	}
	deep := make([]int, len(counts))
	if len(free) == 1 {
		deep[free[0].symbols[0]] = 1
		return deep
	}
	least := func() part {
		at := 0
		for i, p := range free {
			if p.weight < free[at].weight {
				at = i
			}
		}
		p := free[at]
		free = slices.Delete(free, at, at+1)
		return p
	}
	for len(free) > 1 {
		a := least()
		b := least()
		both := part{a.weight + b.weight, slices.Concat(a.symbols, b.symbols)}
		for _, s := range both.symbols {
			deep[s]++
		}
		free = append(free, both) // those that were there first stay ahead
	}
	return deep
}

// wordedLengths are the lengths of counts by the chapter's words, and how many times they were halved.
func wordedLengths(counts []int) ([]int, int) {
	counts = slices.Clone(counts)
	for times := 0; ; times++ {
		deep := wordedDepths(counts)
		if len(deep) == 0 || slices.Max(deep) <= 15 {
			return deep, times
		}
		for s, c := range counts {
			if c != 0 {
				counts[s] = (c - c%2) / 2
				counts[s]++
			}
		}
	}
}

// isCode tells whether lengths are a code's, by the chapter's words.
func isCode(lengths []int) bool {
	if len(lengths) > 512 {
		return false
	}
	zeros, ones, sum := 0, 0, 0.0
	for _, l := range lengths {
		switch {
		case l < 0 || l > 15:
			return false
		case l == 0:
			zeros++
			continue
		case l == 1:
			ones++
		}
		sum += math.Pow(2, float64(15-l))
	}
	if zeros == len(lengths) || ones == 1 && zeros == len(lengths)-1 {
		return true
	}
	return sum == 32768
}

// texts are the symbols' codes as texts of 0 and 1, by the chapter's words; "" if one has none.
func texts(lengths []int) []string {
	l := make([]string, len(lengths))
	next, was := 0, 0
	for want := 1; want <= 15; want++ {
		for s, n := range lengths {
			if n != want {
				continue
			}
			if was > 0 {
				next++
				for range want - was {
					next *= 2
				}
			}
			was = want
			l[s] = fmt.Sprintf("%0*b", want, next)
		}
	}
	return l
}

// packed is a text of 0 and 1 as bytes, filled with that one.
func packed(bits, fill string) []byte {
	for len(bits)%8 != 0 {
		bits += fill
	}
	var b []byte
	for i := 0; i < len(bits); i += 8 {
		x := 0
		for _, c := range bits[i : i+8] {
			x = 2*x + int(c-'0')
		}
		b = append(b, byte(x))
	}
	return b
}

func unpacked(b []byte) string {
	var t strings.Builder
	for _, x := range b {
		fmt.Fprintf(&t, "%08b", x)
	}
	return t.String()
}

// read is what Decode must answer, by the chapter's words.
func read(lengths []int, b []byte, n int) ([]int, int, api.Errno) {
	codes, bits := texts(lengths), unpacked(b)
	var l []int
	at := 0
next:
	for len(l) < n {
		for s, c := range codes {
			if c != "" && strings.HasPrefix(bits[at:], c) {
				l, at = append(l, s), at+len(c)
				continue next
			}
		}
		return nil, at, api.ErrBits
	}
	return l, at, api.OK
}

// merged is the least cost of a code of at most 15 bits for symbols that come so often, by merging packages: a way that makes no tree.
func merged(counts []int) int {
	var coins []int
	for _, c := range counts {
		if c > 0 {
			coins = append(coins, c)
		}
	}
	if len(coins) < 2 {
		return append(coins, 0)[0]
	}
	slices.Sort(coins)
	row := slices.Clone(coins)
	for range 14 {
		var pairs []int
		for i := 0; i+1 < len(row); i += 2 {
			pairs = append(pairs, row[i]+row[i+1])
		}
		row = slices.Concat(coins, pairs)
		slices.Sort(row)
	}
	sum := 0
	for _, w := range row[:2*len(coins)-2] {
		sum += w
	}
	return sum
}

// manyCounts are rows of counts: the edges, and ones without a pattern.
func manyCounts() [][]int {
	l := [][]int{nil, {}, {0}, {1}, {api.MaxCount}, {0, 0, 0}, repeat(0, 512), one(512, 0, 1), one(512, 511, 9), one(512, 200, api.MaxCount),
		{1, 1}, {0, 3, 0, 3}, {1, 2}, {2, 1}, {1, 1, 1}, {1, 1, 2}, {2, 1, 1}, {1, 1, 2, 2}, {2, 2, 1, 1}, {1, 2, 2, 1}, {1, 1, 1, 3}, {3, 3, 3, 3, 3},
		{5, 2, 1, 0, 1}, {2, 2, 2, 2, 4}, {4, 2, 2, 2, 2}, {1, 1, 1, 1, 2, 2, 4}, repeat(1, 512), repeat(api.MaxCount, 512), repeat(7, 511),
		append(repeat(1, 511), api.MaxCount), append(repeat(api.MaxCount, 511), 1), {api.MaxCount, 1, api.MaxCount - 1, 0, 2}}
	for n := 2; n <= 60; n++ {
		l = append(l, fib(n))
	}
	back := fib(40)
	slices.Reverse(back)
	l = append(l, back, append(fib(44), repeat(api.MaxCount, 400)...), append(repeat(0, 300), fib(30)...))
	var powers []int
	for i := range 512 {
		powers = append(powers, 1<<min(i, 30))
	}
	l = append(l, powers)
	c := chance(5)
	for i := range 600 {
		top := []int{2, 3, 5, 20, 1000, api.MaxCount + 1}[i%6]
		row := make([]int, 1+c.below([]int{4, 20, 100, 512}[i/6%4]))
		for j := range row {
			row[j] = c.below(top)
			if i%5 == 0 {
				row[j] >>= c.below(31)
			}
		}
		l = append(l, row)
	}
	return l
}

// manyLengths are rows of lengths that are a code's.
func manyLengths() [][]int {
	l := [][]int{nil, {0}, repeat(0, 512), {1}, {0, 1}, {1, 0, 0}, one(512, 511, 1), {1, 1}, {0, 1, 0, 1}, {2, 2, 2, 2}, {2, 1, 2}, {2, 2, 1}, {3, 1, 3, 2}, repeat(9, 512), {1, 3, 3, 3, 3}}
	for n := 1; n <= 15; n++ {
		down := stairs(n)
		slices.Reverse(down)
		l = append(l, stairs(n), down)
	}
	long := append(stairs(7)[:7], repeat(15, 256)...) // 1 to 7, and 256 of 15
	l = append(l, long, append(slices.Clone(long), repeat(0, 249)...))
	for _, counts := range manyCounts()[:200] {
		lengths, _ := wordedLengths(counts)
		l = append(l, lengths)
	}
	return l
}

// wrongLengths are rows of lengths that are no code's.
func wrongLengths() [][]int {
	return [][]int{{-1}, {16}, {math.MinInt}, {math.MaxInt}, {-1, 1}, {1, 1, -1}, {1, 1, 16}, {1, 1, math.MinInt}, {0, 0, 17}, {1, 1, 64}, {1, 1, 15 + 1<<32},
		{2}, {15}, {0, 2}, {1, 2}, {2, 2}, {2, 2, 0}, {2, 2, 2}, {15, 15}, {1, 15}, {1, 2, 3}, stairs(15)[:15], stairs(15)[1:], repeat(9, 511),
		{1, 1, 1}, {1, 1, 15}, {1, 1, 2}, {1, 2, 2, 2}, {2, 2, 2, 2, 2}, append(stairs(15), 15), repeat(1, 512), repeat(8, 512),
		repeat(0, 513), one(513, 0, 1), append(repeat(9, 512), 0), append(repeat(0, 511), 1, 1), repeat(9, 513), append(repeat(0, 512), 1)}
}

// wrongCounts are rows of counts that may not be.
func wrongCounts() [][]int {
	return [][]int{{-1}, {api.MaxCount + 1}, {math.MinInt}, {math.MaxInt}, {1, 2, -1}, {-1, 2, 3}, {5, api.MaxCount + 1, 3}, {-1, 1},
		repeat(0, 513), repeat(1, 513), append(repeat(1, 512), 0), append(repeat(0, 511), -1), append(repeat(1, 511), api.MaxCount+1)}
}

// P5.1

func TestLengthsOfCounts(t *testing.T) {
	for _, counts := range manyCounts() {
		l, e := huff.Lengths(counts...)
		if want, _ := wordedLengths(counts); e != api.OK || !slices.Equal(l, want) {
			t.Fatalf("Lengths(%v) = %v, %d, not %v", counts, l, e, want)
		}
	}
}

func TestLengthsOfAllShortRowsOfCounts(t *testing.T) {
	for n := range 7 {
		rows := int(math.Pow(5, float64(n)))
		for row := range rows {
			counts := make([]int, n)
			for i := range counts {
				counts[i] = row % 5
				row /= 5
			}
			l, e := huff.Lengths(counts...)
			if e != api.OK || !slices.Equal(l, wordedDepths(counts)) {
				t.Fatalf("Lengths(%v) = %v, %d", counts, l, e)
			}
		}
	}
}

func TestLengthsThatWereReckonedByHand(t *testing.T) {
	for _, c := range []struct{ counts, want []int }{
		{nil, nil},
		{[]int{0}, []int{0}},
		{[]int{0, 0, 0}, []int{0, 0, 0}},
		{[]int{0, 7}, []int{0, 1}},
		{[]int{api.MaxCount, 0}, []int{1, 0}},
		{[]int{4, 0, 4}, []int{1, 0, 1}},
		{[]int{5, 2, 1, 0, 1}, []int{1, 2, 3, 0, 3}},
		{[]int{1, 1, 1}, []int{2, 2, 1}},
		{[]int{1, 1, 2}, []int{2, 2, 1}},
		{[]int{1, 1, 2, 2}, []int{2, 2, 2, 2}}, // the pair of the first two is alike, but was there last
		{[]int{2, 2, 2, 2, 4}, []int{3, 3, 2, 2, 2}},
		{repeat(1, 8), repeat(3, 8)},
		{repeat(1, 512), repeat(9, 512)},
		{repeat(api.MaxCount, 512), repeat(9, 512)},
		{fib(5), []int{4, 4, 3, 2, 1}},
		{fib(16), []int{15, 15, 14, 13, 12, 11, 10, 9, 8, 7, 6, 5, 4, 3, 2, 1}},
		{fib(17), []int{9, 9, 8, 8, 8, 7, 7, 6, 6, 5, 5, 4, 4, 3, 3, 2, 2}}, // halved: 1, 1, 2, 2, 3, 5, 7, 11, ..
	} {
		l, e := huff.Lengths(c.counts...)
		if e != api.OK || !slices.Equal(l, c.want) {
			t.Errorf("Lengths(%v) = %v, %d, not %v", c.counts, l, e, c.want)
		}
	}
}

func TestLengthsHalvedOnceAndAgain(t *testing.T) {
	seen := map[int]bool{}
	for _, counts := range manyCounts() {
		want, times := wordedLengths(counts)
		seen[times] = true
		if l, e := huff.Lengths(counts...); times > 0 && (e != api.OK || !slices.Equal(l, want) || slices.Max(l) > 15) {
			t.Errorf("Lengths(%v) = %v, %d, halved %d times", counts, l, e, times)
		}
	}
	for times := range 4 {
		if !seen[times] {
			t.Errorf("no counts that are halved %d times", times)
		}
	}
}

func TestLengthsOfWrongCounts(t *testing.T) {
	for _, counts := range wrongCounts() {
		if l, e := huff.Lengths(counts...); e != api.ErrCounts || len(l) != 0 {
			t.Errorf("%d counts: %v, %d", len(counts), l, e)
		}
	}
	for _, counts := range [][]int{{api.MaxCount}, repeat(0, 512), repeat(api.MaxCount, 512)} {
		if l, e := huff.Lengths(counts...); e != api.OK || len(l) != len(counts) {
			t.Errorf("%d counts of %d: %d, %d", len(counts), counts[0], len(l), e)
		}
	}
}

// P5.2

func TestCheckOfAllShortRows(t *testing.T) {
	values := []int{0, 1, 2, 3, 4, 14, 15, 16, -1}
	for n := range 6 {
		for row := range int(math.Pow(float64(len(values)), float64(n))) {
			lengths := make([]int, n)
			for i := range lengths {
				lengths[i] = values[row%len(values)]
				row /= len(values)
			}
			if e := huff.Check(lengths); (e == api.OK) != isCode(lengths) || e != api.OK && e != api.ErrLengths {
				t.Fatalf("Check(%v): %d", lengths, e)
			}
		}
	}
}

func TestCheckOfACodes(t *testing.T) {
	for _, lengths := range manyLengths() {
		if e := huff.Check(lengths); e != api.OK || !isCode(lengths) {
			t.Errorf("Check(%v): %d", lengths, e)
		}
	}
}

func TestWrongLengths(t *testing.T) {
	for _, lengths := range wrongLengths() {
		if isCode(lengths) {
			t.Fatalf("%v are a code's", lengths)
		}
		if e := huff.Check(lengths); e != api.ErrLengths {
			t.Errorf("Check(%v): %d", lengths, e)
		}
		if c, e := huff.Codes(lengths); e != api.ErrLengths || len(c) != 0 {
			t.Errorf("Codes(%v): %v, %d", lengths, c, e)
		}
		if n, e := huff.Cost(lengths, make([]int, len(lengths))...); e != api.ErrLengths || n != 0 {
			t.Errorf("Cost(%v): %d, %d", lengths, n, e)
		}
		if b, n, e := huff.Encode(lengths, 0); e != api.ErrLengths || len(b) != 0 || n != 0 {
			t.Errorf("Encode(%v): %x, %d, %d", lengths, b, n, e)
		}
		if l, n, e := huff.Decode(lengths, []byte{0, 0, 0, 0}, 2); e != api.ErrLengths || len(l) != 0 || n != 0 {
			t.Errorf("Decode(%v): %v, %d, %d", lengths, l, n, e)
		}
	}
}

func TestCodes(t *testing.T) {
	for _, lengths := range manyLengths() {
		codes, e := huff.Codes(lengths)
		if e != api.OK || len(codes) != len(lengths) {
			t.Fatalf("Codes(%v): %d of them, %d", lengths, len(codes), e)
		}
		for s, text := range texts(lengths) {
			is := ""
			if lengths[s] > 0 {
				is = fmt.Sprintf("%0*b", lengths[s], codes[s])
			} else if codes[s] != 0 {
				t.Errorf("Codes(%v): %d has none, but %b", lengths, s, codes[s])
			}
			if is != text {
				t.Errorf("Codes(%v): of %d %s, not %s", lengths, s, is, text)
			}
		}
	}
}

func TestCodesThatWereReckonedByHand(t *testing.T) {
	for _, c := range []struct {
		lengths []int
		want    []uint16
	}{
		{nil, nil},
		{[]int{0, 0}, []uint16{0, 0}},
		{[]int{0, 1}, []uint16{0, 0}},
		{[]int{1, 1}, []uint16{0, 1}},
		{[]int{1, 2, 3, 0, 3}, []uint16{0, 2, 6, 0, 7}},
		{[]int{3, 3, 2, 1}, []uint16{6, 7, 2, 0}},
		{[]int{3, 1, 3, 3, 3}, []uint16{4, 0, 5, 6, 7}},
		{stairs(15), []uint16{0, 2, 6, 14, 30, 62, 126, 254, 510, 1022, 2046, 4094, 8190, 16382, 32766, 32767}},
	} {
		if codes, e := huff.Codes(c.lengths); e != api.OK || !slices.Equal(codes, c.want) {
			t.Errorf("Codes(%v) = %v, %d", c.lengths, codes, e)
		}
	}
}

func TestCost(t *testing.T) {
	c := chance(52)
	for _, lengths := range manyLengths() {
		counts := make([]int, len(lengths))
		want := 0
		for s, l := range lengths {
			if l > 0 {
				counts[s] = c.below(api.MaxCount + 1)
			}
			want += counts[s] * l
		}
		if n, e := huff.Cost(lengths, counts...); e != api.OK || n != want {
			t.Errorf("Cost(%v, %v) = %d, %d, not %d", lengths, counts, n, e, want)
		}
	}
	for _, c := range []struct {
		lengths, counts []int
		want            int
	}{
		{nil, nil, 0},
		{[]int{0, 0}, []int{0, 0}, 0},
		{[]int{1, 2, 3, 0, 3}, []int{5, 2, 1, 0, 1}, 15},
		{[]int{1, 1}, []int{0, 0}, 0},
		{[]int{0, 1}, []int{0, api.MaxCount}, 1 << 30},
		{repeat(9, 512), repeat(api.MaxCount, 512), 9 << 39},
	} {
		if n, e := huff.Cost(c.lengths, c.counts...); e != api.OK || n != c.want {
			t.Errorf("Cost(%v, %v) = %d, %d", c.lengths, c.counts, n, e)
		}
	}
}

func TestCostIsWhatEncodeTells(t *testing.T) {
	c := chance(53)
	for _, lengths := range manyLengths() {
		counts := make([]int, len(lengths))
		var symbols []int
		for s, l := range lengths {
			if l > 0 {
				counts[s] = c.below(5)
				symbols = append(symbols, repeat(s, counts[s])...)
			}
		}
		cost, _ := huff.Cost(lengths, counts...)
		if _, n, e := huff.Encode(lengths, symbols...); e != api.OK || n != cost {
			t.Errorf("%v, %v: %d bits, cost %d, %d", lengths, counts, n, cost, e)
		}
	}
}

func TestCostRefuses(t *testing.T) {
	for _, c := range []struct {
		lengths, counts []int
		want            api.Errno
	}{
		{[]int{2}, []int{-1}, api.ErrLengths},
		{[]int{2}, nil, api.ErrLengths},
		{[]int{2, 0}, []int{0, 1}, api.ErrLengths},
		{repeat(0, 513), repeat(0, 513), api.ErrLengths},
		{[]int{1, 1}, []int{1}, api.ErrCounts},
		{[]int{1, 1}, []int{1, 1, 0}, api.ErrCounts},
		{[]int{1, 1}, nil, api.ErrCounts},
		{nil, []int{0}, api.ErrCounts},
		{nil, []int{1}, api.ErrCounts},
		{[]int{1, 1}, []int{1, -1}, api.ErrCounts},
		{[]int{1, 1}, []int{api.MaxCount + 1, 1}, api.ErrCounts},
		{[]int{0, 1, 1}, []int{1, 1, -1}, api.ErrCounts},
		{[]int{0, 1, 1}, []int{1, 1, api.MaxCount + 1}, api.ErrCounts},
		{[]int{0, 1, 1}, []int{1, 1}, api.ErrCounts},
		{[]int{0, 1, 1}, []int{-1, 1, 1}, api.ErrCounts},
		{repeat(0, 512), repeat(0, 513), api.ErrCounts},
		{[]int{0, 1, 1}, []int{1, 1, 1}, api.ErrSymbol},
		{[]int{1, 1, 0}, []int{0, 0, 1}, api.ErrSymbol},
		{[]int{1, 1, 0}, []int{2, 3, 1}, api.ErrSymbol},
		{[]int{0}, []int{api.MaxCount}, api.ErrSymbol},
		{[]int{0, 1}, []int{3, 3}, api.ErrSymbol},
	} {
		if n, e := huff.Cost(c.lengths, c.counts...); e != c.want || n != 0 {
			t.Errorf("Cost(%v, %v) = %d, %d, not %d", c.lengths, c.counts, n, e, c.want)
		}
	}
}

// P5.3

// written are some symbols that have codes, none if none has, and their codes' bits.
func written(c *chance, lengths []int, n int) ([]int, string) {
	var have, l []int
	for s, n := range lengths {
		if n > 0 {
			have = append(have, s)
		}
	}
	if len(have) == 0 {
		return nil, ""
	}
	codes := texts(lengths)
	var t strings.Builder
	for range n {
		s := have[c.below(len(have))]
		l = append(l, s)
		t.WriteString(codes[s])
	}
	return l, t.String()
}

func TestEncode(t *testing.T) {
	c := chance(54)
	for _, lengths := range manyLengths() {
		for _, n := range []int{0, 1, 2, 3, 7, 8, 9, 100, 1000} {
			symbols, bits := written(&c, lengths, n)
			b, k, e := huff.Encode(lengths, symbols...)
			if e != api.OK || k != len(bits) || string(b) != string(packed(bits, "0")) {
				t.Fatalf("Encode(%v, %v) = %x, %d, %d, not %s", lengths, symbols, b, k, e, bits)
			}
		}
	}
}

func TestEncodeThatWasReckonedByHand(t *testing.T) {
	l := []int{1, 2, 3, 0, 3}
	for _, c := range []struct {
		lengths, symbols []int
		bytes            string
		n                int
	}{
		{nil, nil, "", 0},
		{[]int{0, 0}, nil, "", 0},
		{[]int{0, 1}, nil, "", 0},
		{[]int{0, 1}, []int{1, 1, 1}, "\x00", 3},
		{[]int{0, 1}, repeat(1, 9), "\x00\x00", 9},
		{[]int{1, 1}, []int{1, 0, 1, 1, 0, 0, 1, 0}, "\xb2", 8},
		{[]int{1, 1}, repeat(1, 9), "\xff\x80", 9},
		{l, []int{0, 4, 1}, "\x78", 6},
		{l, []int{4, 4, 4}, "\xff\x80", 9},
		{l, []int{2, 4, 2, 0}, "\xdf\x00", 10},
		{stairs(15), []int{15, 15, 0, 14}, "\xff\xff\xff\xfd\xff\xf8", 46},
		{stairs(15), []int{0, 14, 15}, "\x7f\xfe\xff\xfe", 31},
	} {
		if b, n, e := huff.Encode(c.lengths, c.symbols...); e != api.OK || string(b) != c.bytes || n != c.n {
			t.Errorf("Encode(%v, %v) = %x, %d, %d", c.lengths, c.symbols, b, n, e)
		}
	}
}

func TestEncodeRefuses(t *testing.T) {
	l := []int{1, 2, 3, 0, 3}
	for _, c := range []struct {
		lengths, symbols []int
		want             api.Errno
	}{
		{[]int{2}, nil, api.ErrLengths},
		{[]int{2}, []int{-1}, api.ErrLengths},
		{repeat(0, 513), []int{512}, api.ErrLengths},
		{l, []int{3}, api.ErrSymbol},
		{l, []int{5}, api.ErrSymbol},
		{l, []int{-1}, api.ErrSymbol},
		{l, []int{math.MinInt}, api.ErrSymbol},
		{l, []int{math.MaxInt}, api.ErrSymbol},
		{l, []int{0, 1, 2, 4, 3}, api.ErrSymbol},
		{l, []int{-1, 0}, api.ErrSymbol},
		{l, append(repeat(4, 100), 5), api.ErrSymbol},
		{nil, []int{0}, api.ErrSymbol},
		{[]int{0}, []int{0}, api.ErrSymbol},
		{[]int{0, 1}, []int{1, 0}, api.ErrSymbol},
		{repeat(9, 512), []int{511, 512}, api.ErrSymbol},
	} {
		if b, n, e := huff.Encode(c.lengths, c.symbols...); e != c.want || len(b) != 0 || n != 0 {
			t.Errorf("Encode(%v, %v) = %x, %d, %d, not %d", c.lengths, c.symbols, b, n, e, c.want)
		}
	}
}

// P5.4

func TestDecodeOfAnyBytes(t *testing.T) {
	c := chance(55)
	for _, lengths := range manyLengths() {
		for _, n := range []int{0, 1, 2, 7, 8, 9, 30, 200, 1000} {
			b := make([]byte, c.below(40))
			for i := range b {
				b[i] = byte(c.below(256))
			}
			if n%2 == 0 {
				b = b[:len(b)/8]
			}
			l, k, e := huff.Decode(lengths, b, n)
			want, at, errno := read(lengths, b, n)
			if e != errno || k != at || !slices.Equal(l, want) {
				t.Fatalf("Decode(%v, %x, %d) = %v, %d, %d, not %v, %d, %d", lengths, b, n, l, k, e, want, at, errno)
			}
		}
	}
}

func TestDecodeThatWasReckonedByHand(t *testing.T) {
	l := []int{1, 2, 3, 0, 3}
	for _, c := range []struct {
		lengths []int
		bytes   string
		n       int
		want    []int
		bits    int
		errno   api.Errno
	}{
		{l, "\x78", 3, []int{0, 4, 1}, 6, api.OK},
		{l, "\x7b", 3, []int{0, 4, 1}, 6, api.OK},
		{l, "\x78\xff\xff", 3, []int{0, 4, 1}, 6, api.OK},
		{l, "\x78", 1, []int{0}, 1, api.OK},
		{l, "\x78", 5, []int{0, 4, 1, 0, 0}, 8, api.OK},
		{l, "\x78", 6, nil, 8, api.ErrBits},
		{l, "\x78", 0, nil, 0, api.OK},
		{l, "", 0, nil, 0, api.OK},
		{l, "", 1, nil, 0, api.ErrBits},
		{l, "\xff", 2, []int{4, 4}, 6, api.OK},
		{l, "\xff", 3, nil, 6, api.ErrBits},
		{l, "\xff", math.MaxInt, nil, 6, api.ErrBits},
		{l, "\xff\x80", 3, []int{4, 4, 4}, 9, api.OK},
		{l, "\x01", 8, nil, 7, api.ErrBits},
		{[]int{1}, "\x40", 3, nil, 1, api.ErrBits},
		{[]int{1}, "\x40", 1, []int{0}, 1, api.OK},
		{[]int{0, 1}, "\x00\x00", 16, repeat(1, 16), 16, api.OK},
		{[]int{0, 1}, "\x00\x00", 17, nil, 16, api.ErrBits},
		{[]int{0, 1}, "\x80", 1, nil, 0, api.ErrBits},
		{[]int{0, 1}, "\x80", 0, nil, 0, api.OK},
		{[]int{0, 1}, "\x7f\xff\xff", 2, nil, 1, api.ErrBits},
		{nil, "\x00", 1, nil, 0, api.ErrBits},
		{nil, "\x00", 0, nil, 0, api.OK},
		{[]int{0, 0}, "\x00\x00\x00", 1, nil, 0, api.ErrBits},
		{[]int{0, 0}, "\xff\xff\xff", math.MaxInt, nil, 0, api.ErrBits},
		{[]int{0, 0}, "\xff", 0, nil, 0, api.OK},
		{stairs(15), "\xff\xff", 1, []int{15}, 15, api.OK},
		{stairs(15), "\xff\xfc", 1, []int{14}, 15, api.OK},
		{stairs(15), "\xff\xff", 2, nil, 15, api.ErrBits},
		{stairs(15), "\x7f\xff", 2, []int{0, 15}, 16, api.OK},
		{stairs(15), "\x3f\xff", 3, nil, 2, api.ErrBits},
		{stairs(15), "\xff", 1, nil, 0, api.ErrBits},
		{[]int{1, 1}, "\xb2", 8, []int{1, 0, 1, 1, 0, 0, 1, 0}, 8, api.OK},
		{[]int{1, 1}, "\xb2", 9, nil, 8, api.ErrBits},
	} {
		b, n, e := huff.Decode(c.lengths, []byte(c.bytes), c.n)
		if e != c.errno || n != c.bits || !slices.Equal(b, c.want) {
			t.Errorf("Decode(%v, %x, %d) = %v, %d, %d", c.lengths, c.bytes, c.n, b, n, e)
		}
	}
}

func TestDecodeRefuses(t *testing.T) {
	for _, c := range []struct {
		lengths []int
		n       int
		want    api.Errno
	}{
		{[]int{2}, -1, api.ErrLengths},
		{[]int{2}, 0, api.ErrLengths},
		{[]int{1, 1}, -1, api.ErrArg},
		{[]int{1, 1}, math.MinInt, api.ErrArg},
		{nil, -1, api.ErrArg},
		{[]int{0, 1}, -1, api.ErrArg}, // ahead of ErrBits
	} {
		l, n, e := huff.Decode(c.lengths, []byte{0xff}, c.n)
		if e != c.want || len(l) != 0 || n != 0 {
			t.Errorf("Decode(%v, %d) = %v, %d, %d, not %d", c.lengths, c.n, l, n, e, c.want)
		}
	}
}

// P5.5

func TestThereAndBack(t *testing.T) {
	c := chance(56)
	for _, lengths := range manyLengths() {
		for _, n := range []int{0, 1, 2, 5, 8, 64, 500} {
			symbols, bits := written(&c, lengths, n)
			b, k, _ := huff.Encode(lengths, symbols...)
			behind := [][]byte{nil, {0}, {255}, {1, 2, 3}}
			rows := [][]byte{packed(bits, "1")} // whatever stands behind, in the last byte too
			for _, more := range behind {
				rows = append(rows, slices.Concat(b, more))
			}
			for _, row := range rows {
				l, is, e := huff.Decode(lengths, row, len(symbols))
				if e != api.OK || is != k || !slices.Equal(l, symbols) {
					t.Fatalf("Decode(%v, %x, %d) = %v, %d, %d, not %v, %d", lengths, row, len(symbols), l, is, e, symbols, k)
				}
			}
		}
	}
}

func TestManySymbolsThereAndBack(t *testing.T) {
	c := chance(57)
	for _, counts := range [][]int{fib(40), repeat(3, 512), {1, 1000}, {0, 5}} {
		lengths, _ := huff.Lengths(counts...)
		symbols, _ := written(&c, lengths, 200000)
		b, n, e := huff.Encode(lengths, symbols...)
		if e != api.OK || len(b) != (n+7)/8 {
			t.Fatalf("Encode: %d bytes, %d bits, %d", len(b), n, e)
		}
		if l, k, e := huff.Decode(lengths, b, len(symbols)); e != api.OK || k != n || !slices.Equal(l, symbols) {
			t.Errorf("Decode: %d symbols, %d bits, %d", len(l), k, e)
		}
	}
}

// P5.6

func TestTheyAreLengths(t *testing.T) {
	for _, counts := range manyCounts() {
		l, e := huff.Lengths(counts...)
		if e != api.OK || !isCode(l) || huff.Check(l) != api.OK || len(l) != len(counts) {
			t.Fatalf("Lengths(%v) = %v, %d", counts, l, e)
		}
		for s, c := range counts {
			if (c != 0) != (l[s] != 0) {
				t.Errorf("Lengths(%v): of %d %d", counts, s, l[s])
			}
		}
	}
}

// P5.7

func TestNoneIsBetter(t *testing.T) {
	held := 0
	for _, counts := range manyCounts() {
		if _, times := wordedLengths(counts); times > 0 {
			continue
		}
		held++
		l, _ := huff.Lengths(counts...)
		if n, e := huff.Cost(l, counts...); e != api.OK || n != merged(counts) {
			t.Errorf("Lengths(%v) cost %d, %d, not %d", counts, n, e, merged(counts))
		}
	}
	if held < 300 {
		t.Errorf("only %d rows are not halved", held)
	}
}

func TestNoOtherShortCodeIsBetter(t *testing.T) {
	c := chance(58)
	for range 40 {
		counts := []int{1 + c.below(20), 1 + c.below(20), 1 + c.below(20), 1 + c.below(20), 1 + c.below(20)}
		l, _ := huff.Lengths(counts...)
		is, _ := huff.Cost(l, counts...)
		for row := range 5 * 5 * 5 * 5 * 5 {
			other := make([]int, 5)
			for i := range other {
				other[i] = 1 + row%5
				row /= 5
			}
			if n, e := huff.Cost(other, counts...); e == api.OK && n < is {
				t.Fatalf("%v: %v cost %d, %v %d", counts, l, is, other, n)
			}
		}
	}
}

// P5.8

func TestApart(t *testing.T) {
	for _, lengths := range manyLengths() {
		codes, _ := huff.Codes(lengths)
		for s, a := range lengths {
			for r, b := range lengths {
				if s != r && a > 0 && a <= b && codes[r]>>(b-a) == codes[s] {
					t.Fatalf("%v: %0*b and %0*b", lengths, a, codes[s], b, codes[r])
				}
			}
		}
	}
}

// What holds everywhere.

func TestArgumentsStay(t *testing.T) {
	counts := fib(30)
	lengths, _ := huff.Lengths(counts...)
	if !slices.Equal(counts, fib(30)) {
		t.Error("Lengths changed the counts")
	}
	was, symbols := slices.Clone(lengths), []int{3, 1, 2, 29}
	b, _, _ := huff.Encode(lengths, symbols...)
	bytes := string(b)
	huff.Check(lengths)
	huff.Codes(lengths)
	huff.Cost(lengths, counts...)
	huff.Decode(lengths, b, 4)
	if !slices.Equal(lengths, was) || !slices.Equal(counts, fib(30)) || !slices.Equal(symbols, []int{3, 1, 2, 29}) || string(b) != bytes {
		t.Error("an argument was changed")
	}
}

func TestAnswersAreNew(t *testing.T) {
	counts := []int{0, 1} // the lengths are alike
	first, _ := huff.Lengths(counts...)
	first[0], first[1] = 7, 7
	if second, _ := huff.Lengths(counts...); !slices.Equal(counts, []int{0, 1}) || !slices.Equal(second, []int{0, 1}) {
		t.Error("lengths are shared")
	}
	lengths := []int{1, 2, 2}
	codes, _ := huff.Codes(lengths)
	b, _, _ := huff.Encode(lengths, 0, 1, 2)
	symbols, _, _ := huff.Decode(lengths, []byte{0x58}, 3)
	clear(codes)
	clear(b)
	clear(symbols)
	if codes, _ := huff.Codes(lengths); !slices.Equal(codes, []uint16{0, 2, 3}) {
		t.Error("codes are shared")
	}
	if b, _, _ := huff.Encode(lengths, 0, 1, 2); string(b) != "\x58" {
		t.Error("bytes are shared")
	}
	if symbols, _, _ := huff.Decode(lengths, []byte{0x58}, 3); !slices.Equal(symbols, []int{0, 1, 2}) {
		t.Error("symbols are shared")
	}
}
