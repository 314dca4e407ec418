package lz_test

import (
	"bytes"
	"math"
	"slices"
	"strings"
	"testing"

	"saltern/api"
	"saltern/lz"
)

// chance is numbers without a pattern, always the same ones.
type chance uint64

func (c *chance) below(n int) int {
	*c = *c*6364136223846793005 + 1442695040888963407
	return int(uint64(*c)>>33) % n
}

// row is n bytes without a pattern, of so many different ones.
func (c *chance) row(n, kinds int) []byte {
	b := make([]byte, n)
	for i := range b {
		b[i] = byte(c.below(kinds))
	}
	return b
}

func lit(b byte) api.Token         { return api.Token{Len: 1, Lit: b} }
func back(dist, n int) api.Token   { return api.Token{Dist: dist, Len: n} }
func times(s string, n int) []byte { return bytes.Repeat([]byte(s), n) }

// lits are the literals of a text.
func lits(text string) []api.Token {
	var l []api.Token
	for i := range len(text) {
		l = append(l, lit(text[i]))
	}
	return l
}

func join(rows ...[]api.Token) []api.Token { return slices.Concat(rows...) }

// steps is n bytes in which no four stand twice: pairs of numbers that count on.
func steps(n int) []byte {
	b := make([]byte, 0, n+2)
	for i := 0; len(b) < n; i++ {
		b = append(b, byte(i>>8)|128, byte(i)) // the higher byte is the same for long, the lower one is not
	}
	return b[:n]
}

// isToken tells whether a token is one, by the chapter's words.
func isToken(t api.Token) bool {
	if t.Dist == 0 {
		return t.Len == 1
	}
	return t.Dist >= 1 && t.Dist <= 4096 && t.Len >= 4 && t.Len <= 258 && t.Lit == 0
}

// stands tells whether a copy can stand at a place: its bytes, made one by one, are the next ones.
func stands(b []byte, at int, t api.Token) bool {
	made := slices.Clone(b[:at])
	for range t.Len {
		made = append(made, made[len(made)-t.Dist])
	}
	return bytes.Equal(made, b[:at+t.Len])
}

// bestOfAll is the token at a place by the chapter's words: of all copies that can stand there, tried one by one.
func bestOfAll(b []byte, at int) api.Token {
	for n := min(258, len(b)-at); n >= 4; n-- {
		for dist := 1; dist <= min(4096, at); dist++ {
			if stands(b, at, back(dist, n)) {
				return back(dist, n)
			}
		}
	}
	return lit(b[at])
}

// bestByDist is the same, for long rows: how long a copy of each Dist can be, all held against each other.
func bestByDist(b []byte, at int) api.Token {
	best := lit(b[at])
	for dist := 1; dist <= 4096 && dist <= at; dist++ {
		n := 0
		for n < 258 && at+n < len(b) && b[at+n] == b[at+n-dist] {
			n++
		}
		if n >= 4 && n > best.Len {
			best = back(dist, n)
		}
	}
	return best
}

func wordedTokens(b []byte, best func([]byte, int) api.Token) []api.Token {
	var l []api.Token
	for at := 0; at < len(b); at += l[len(l)-1].Len {
		l = append(l, best(b, at))
	}
	return l
}

// wordedBytes is what Bytes must answer, by the chapter's words.
func wordedBytes(l []api.Token) ([]byte, int, api.Errno) {
	made := make([]byte, 1<<17)
	n := 0
	for i, t := range l {
		if !isToken(t) {
			return nil, i, api.ErrToken
		}
		if t.Dist > n {
			return nil, i, api.ErrDist
		}
		if n+t.Len > 65536 {
			return nil, i, api.ErrLong
		}
		for k := range t.Len {
			made[n+k] = t.Lit
			if t.Dist > 0 {
				made[n+k] = made[n+k-t.Dist]
			}
		}
		n += t.Len
	}
	return made[:n], 0, api.OK
}

// shortRows are all rows of up to so many bytes, of so many different ones.
func shortRows(kinds, most int) [][]byte {
	l := [][]byte{nil}
	for from := 0; from < len(l); from++ {
		for k := 0; k < kinds && len(l[from]) < most; k++ {
			l = append(l, append(slices.Clone(l[from]), byte('a'+k)))
		}
	}
	return l
}

// longRows are rows that reach the limits of a copy: its length, how far it reaches.
func longRows() [][]byte {
	var l [][]byte
	for _, n := range []int{4, 5, 257, 258, 259, 260, 262, 263, 264, 516, 517, 520, 521, 522, 4096, 5000} {
		l = append(l, make([]byte, n), times("ab", n/2), times("abc", n/3))
	}
	for _, n := range []int{4, 257, 258, 259, 262, 300} { // a repetition of n bytes, just so far ahead
		for _, far := range []int{4095, 4096, 4097} {
			b := steps(far)
			l = append(l, slices.Concat(b, b[:n]), slices.Concat(b, b[:n], []byte("xyz")))
		}
	}
	c := chance(62)
	for i := range 40 {
		l = append(l, c.row(200+c.below(9000), []int{2, 3, 4, 10, 256}[i%5]))
	}
	for range 40 {
		l = append(l, woven(&c, 100+c.below(20000)))
	}
	return l
}

// woven is bytes most of which are copies of what stands ahead, of any length and from any place.
func woven(c *chance, n int) []byte {
	b := c.row(10, 256)
	for len(b) < n {
		b = append(b, c.row(c.below(6), 256)...)
		dist := 1 + c.below(min(len(b), 5000))
		if c.below(2) == 0 {
			dist = 1 + c.below(min(len(b), 20))
		}
		for range c.below(400) {
			b = append(b, b[len(b)-dist])
		}
	}
	return b[:n]
}

// fullRows are rows of just as many bytes as may be.
func fullRows() [][]byte {
	c := chance(63)
	return [][]byte{make([]byte, 65536), c.row(65536, 256), c.row(65536, 2), woven(&c, 65536), steps(65536), times("abcdabce", 8192),
		slices.Concat(times("aaaab", 13107), []byte("c")), bytes.Join([][]byte{times("a", 200), c.row(65536-400, 3), times("a", 200)}, nil)}
}

func allRows() [][]byte {
	return slices.Concat(shortRows(2, 11), shortRows(3, 6), longRows(), fullRows())
}

// wrongTokens are none.
func wrongTokens() []api.Token {
	return []api.Token{{}, {Lit: 7}, {Len: 2}, {Len: 4}, {Len: -1}, {Len: 0, Lit: 1}, {Len: math.MaxInt}, {Len: math.MinInt},
		{Dist: 1}, {Dist: 1, Len: 1}, {Dist: 1, Len: 1, Lit: 5}, {Dist: 1, Len: 3}, {Dist: 1, Len: 259}, {Dist: 4096, Len: 3}, {Dist: 4096, Len: 259},
		{Dist: 4097, Len: 4}, {Dist: 4097, Len: 258}, {Dist: 4097, Len: 1}, {Dist: -1, Len: 4}, {Dist: -1, Len: 1}, {Dist: -4096, Len: 4},
		{Dist: math.MaxInt, Len: 4}, {Dist: math.MinInt, Len: 4}, {Dist: 1, Len: math.MaxInt}, {Dist: 1, Len: math.MinInt}, {Dist: 1, Len: -4},
		{Dist: 1, Len: 4, Lit: 1}, {Dist: 4096, Len: 258, Lit: 255}, {Dist: 1<<32 + 1, Len: 4}, {Dist: 1, Len: 1<<32 + 4}}
}

// P6.1

func TestCheck(t *testing.T) {
	dists := []int{math.MinInt, -4096, -1, 0, 1, 2, 4, 4095, 4096, 4097, 8192, 1 << 16, math.MaxInt}
	lens := []int{math.MinInt, -4, -1, 0, 1, 2, 3, 4, 5, 257, 258, 259, 4096, math.MaxInt}
	for _, d := range dists {
		for _, n := range lens {
			for _, b := range []byte{0, 1, 128, 255} {
				x := api.Token{Dist: d, Len: n, Lit: b}
				if e := lz.Check(x); (e == api.OK) != isToken(x) || e != api.OK && e != api.ErrToken {
					t.Errorf("Check(%v): %d", x, e)
				}
			}
		}
	}
}

func TestCheckOfWhatIsAToken(t *testing.T) {
	for i := range 256 {
		if e := lz.Check(lit(byte(i))); e != api.OK {
			t.Errorf("literal %d: %d", i, e)
		}
	}
	for n := 4; n <= 258; n++ {
		if e := lz.Check(back(4096, n)); e != api.OK {
			t.Errorf("Len %d: %d", n, e)
		}
	}
	for d := 1; d <= 4096; d++ {
		if e := lz.Check(back(d, 4)); e != api.OK {
			t.Errorf("Dist %d: %d", d, e)
		}
	}
}

func TestCheckOfWhatIsNone(t *testing.T) {
	for _, x := range wrongTokens() {
		if e := lz.Check(x); e != api.ErrToken {
			t.Errorf("Check(%v): %d", x, e)
		}
	}
}

func TestSize(t *testing.T) {
	for _, c := range []struct {
		l    []api.Token
		want int
	}{
		{nil, 0},
		{[]api.Token{}, 0},
		{lits("a"), 1},
		{[]api.Token{lit(0)}, 1},
		{[]api.Token{back(1, 4)}, 4}, // what stands ahead plays no part
		{[]api.Token{back(4096, 258)}, 258},
		{join(lits("abc"), []api.Token{back(3, 6)}, lits("d")), 10},
		{lits(strings.Repeat("x", 65536)), 65536},
		{join(slices.Repeat([]api.Token{back(1, 258)}, 254), lits("abcd")), 65536},
		{join(slices.Repeat([]api.Token{back(1, 258)}, 254), []api.Token{back(9, 4)}), 65536},
	} {
		if n, e := lz.Size(c.l...); n != c.want || e != api.OK {
			t.Errorf("%d tokens: %d, %d, not %d", len(c.l), n, e, c.want)
		}
	}
}

func TestSizeIsHowManyBytesThereAre(t *testing.T) {
	for _, b := range allRows() {
		l, _ := lz.Tokens(b)
		if n, e := lz.Size(l...); n != len(b) || e != api.OK {
			t.Fatalf("%.40q, %d bytes: %d, %d", b, len(b), n, e)
		}
	}
}

func TestSizeRefuses(t *testing.T) {
	for _, x := range wrongTokens() {
		for _, l := range [][]api.Token{{x}, {x, lit(1)}, {lit(1), x}, {lit(1), x, lit(2)}, {back(1, 4), x}, {x, x}} {
			if n, e := lz.Size(l...); n != 0 || e != api.ErrToken {
				t.Errorf("Size(%v): %d, %d", l, n, e)
			}
		}
	}
	full := slices.Repeat([]api.Token{back(1, 256)}, 256)
	for _, c := range []struct {
		more []api.Token
		want api.Errno
	}{
		{nil, api.OK},
		{lits("a"), api.ErrLong},
		{[]api.Token{back(1, 4)}, api.ErrLong},
		{full, api.ErrLong},
		{[]api.Token{{}}, api.ErrToken},                                   // wrong, but of no bytes
		{[]api.Token{lit(1), {Len: 2}}, api.ErrToken},                     // named first, though it comes behind
		{[]api.Token{lit(1), {Dist: 1, Len: math.MaxInt}}, api.ErrToken},  // not added
		{[]api.Token{lit(1), {Dist: 1, Len: -65536}}, api.ErrToken},       // not taken off
		{slices.Concat(full, full, []api.Token{{Dist: 1}}), api.ErrToken}, // far behind
		{slices.Concat(lits("ab"), []api.Token{back(1, 258)}), api.ErrLong},
	} {
		l := slices.Concat(full, c.more)
		n, e := lz.Size(l...)
		if e != c.want || e != api.OK && n != 0 {
			t.Errorf("full, and %d more: %d, %d, not %d", len(c.more), n, e, c.want)
		}
	}
}

// P6.2

// tokenCases are rows whose tokens were reckoned by hand.
func tokenCases() []struct {
	row  []byte
	want []api.Token
} {
	far := func(n int) []byte { return slices.Concat(steps(n), steps(4)) }
	single := func(n int) []api.Token { return lits(string(steps(n))) }
	return []struct {
		row  []byte
		want []api.Token
	}{
		{nil, nil},
		{[]byte{}, nil},
		{[]byte{0}, lits("\x00")},
		{[]byte("abcabcabcd"), join(lits("abc"), []api.Token{back(3, 6)}, lits("d"))},
		{make([]byte, 10), []api.Token{lit(0), back(1, 9)}},
		{[]byte("abcabc"), lits("abcabc")},
		{[]byte("aaa"), lits("aaa")},
		{[]byte("aaaa"), lits("aaaa")}, // behind the first one there are three
		{[]byte("aaaaa"), join(lits("a"), []api.Token{back(1, 4)})},
		{[]byte("abcXabcY"), lits("abcXabcY")},
		{[]byte("abcdXabcdY"), join(lits("abcdX"), []api.Token{back(5, 4)}, lits("Y"))},
		{[]byte("abcdabcd"), join(lits("abcd"), []api.Token{back(4, 4)})},
		{[]byte("abcdabc"), lits("abcdabc")},                                                                             // the bytes end
		{[]byte("abcdXabcdYabcd"), join(lits("abcdX"), []api.Token{back(5, 4)}, lits("Y"), []api.Token{back(5, 4)})},     // the nearer one
		{[]byte("abcdeXabcdYabcde"), join(lits("abcdeX"), []api.Token{back(6, 4)}, lits("Y"), []api.Token{back(11, 5)})}, // the longer one, though farther
		{[]byte("abcdYabcdeXabcde"), join(lits("abcdY"), []api.Token{back(5, 4)}, lits("eX"), []api.Token{back(6, 5)})},  // the longer one, and nearer
		{[]byte("aXaaaaaYaaaaa"), join(lits("aXa"), []api.Token{back(1, 4)}, lits("Y"), []api.Token{back(6, 5)})},
		{times("ab", 6), join(lits("ab"), []api.Token{back(2, 10)})},
		{[]byte("bcdeXabcdeYabcde"), join(lits("bcdeXa"), []api.Token{back(6, 4)}, lits("Y"), []api.Token{back(6, 5)})}, // what lies across tokens is copied
		{make([]byte, 259), []api.Token{lit(0), back(1, 258)}},
		{make([]byte, 260), []api.Token{lit(0), back(1, 258), lit(0)}},
		{make([]byte, 262), []api.Token{lit(0), back(1, 258), lit(0), lit(0), lit(0)}},
		{make([]byte, 263), []api.Token{lit(0), back(1, 258), back(1, 4)}},
		{make([]byte, 600), []api.Token{lit(0), back(1, 258), back(1, 258), back(1, 83)}},
		{far(4095), join(single(4095), []api.Token{back(4095, 4)})},
		{far(4096), join(single(4096), []api.Token{back(4096, 4)})},
		{far(4097), join(single(4097), lits(string(steps(4))))}, // farther ahead than a copy reaches
		{slices.Concat(steps(4096), steps(300)), join(single(4096), []api.Token{back(4096, 258), back(4096, 42)})},
	}
}

func TestTokensThatWereReckonedByHand(t *testing.T) {
	for _, c := range tokenCases() {
		if l, e := lz.Tokens(c.row); e != api.OK || !slices.Equal(l, c.want) {
			t.Errorf("%.60q: %v, %d, not %v", c.row, l, e, c.want)
		}
	}
}

func TestTokensOfAllShortRows(t *testing.T) {
	for _, b := range slices.Concat(shortRows(2, 11), shortRows(3, 7), shortRows(4, 5)) {
		l, e := lz.Tokens(b)
		if want := wordedTokens(b, bestOfAll); e != api.OK || !slices.Equal(l, want) {
			t.Fatalf("%q: %v, %d, not %v", b, l, e, want)
		}
	}
}

func TestTokensOfLongRows(t *testing.T) {
	for _, b := range slices.Concat(longRows(), fullRows()) {
		l, e := lz.Tokens(b)
		if want := wordedTokens(b, bestByDist); e != api.OK || !slices.Equal(l, want) {
			at := 0
			for at < min(len(l), len(want)) && l[at] == want[at] {
				at++
			}
			t.Fatalf("%.40q, %d bytes, %d: %d tokens, not %d; another one at %d", b, len(b), e, len(l), len(want), at)
		}
	}
}

func TestTokensAreTheLongestOnes(t *testing.T) {
	for _, b := range slices.Concat(longRows(), fullRows()) {
		l, _ := lz.Tokens(b)
		at := 0
		for i, x := range l {
			if x.Dist > 0 || i%16 == 0 { // there is no time for all literals of the longest rows
				if want, e := lz.Longest(b, at); x != want || e != api.OK {
					t.Fatalf("%.40q, %d bytes: token %d at %d is %v, Longest %v, %d", b, len(b), i, at, x, want, e)
				}
			}
			at += x.Len
		}
	}
}

func TestLongestAtAllPlacesOfShortRows(t *testing.T) {
	for _, b := range slices.Concat(shortRows(2, 10), shortRows(3, 6)) {
		for at := range b {
			if x, e := lz.Longest(b, at); x != bestOfAll(b, at) || e != api.OK {
				t.Fatalf("Longest(%q, %d): %v, %d, not %v", b, at, x, e, bestOfAll(b, at))
			}
		}
	}
}

func TestLongestAtManyPlacesOfLongRows(t *testing.T) {
	c := chance(64)
	for _, b := range slices.Concat(longRows(), fullRows()) {
		places := []int{0, 1, len(b) / 2, len(b) - 5, len(b) - 4, len(b) - 3, len(b) - 1}
		for range 60 {
			places = append(places, c.below(len(b)))
		}
		for _, at := range places {
			if at < 0 {
				continue
			}
			if x, e := lz.Longest(b, at); x != bestByDist(b, at) || e != api.OK {
				t.Fatalf("%.40q, %d bytes, at %d: %v, %d, not %v", b, len(b), at, x, e, bestByDist(b, at))
			}
		}
	}
}

func TestLongestThatWasReckonedByHand(t *testing.T) {
	for _, c := range []struct {
		row  []byte
		at   int
		want api.Token
	}{
		{[]byte("a"), 0, lit('a')},
		{[]byte{0}, 0, lit(0)},
		{[]byte("aaaaaaaa"), 0, lit('a')},
		{[]byte("aaaaaaaa"), 1, back(1, 7)},
		{[]byte("aaaaaaaa"), 4, back(1, 4)},
		{[]byte("aaaaaaaa"), 5, lit('a')},
		{[]byte("aaaaaaaa"), 7, lit('a')},
		{[]byte("abcdXabcdYabcd"), 10, back(5, 4)},
		{[]byte("abcdXabcdYabcd"), 5, back(5, 4)},
		{[]byte("abcdXabcdYabcd"), 6, lit('b')},
		{[]byte("abcdXabcdYabcd"), 13, lit('d')},
		{[]byte("abcdeXabcdYabcde"), 11, back(11, 5)},
		{[]byte("abcdeXabcdYabcde"), 12, back(11, 4)}, // a place at which no token of the row is
		{[]byte("abcabcabcd"), 3, back(3, 6)},
		{[]byte("abcabcabcd"), 4, back(3, 5)},
		{[]byte("abcabcabcd"), 9, lit('d')},
		{make([]byte, 300), 1, back(1, 258)},
		{make([]byte, 300), 42, back(1, 258)},
		{make([]byte, 300), 43, back(1, 257)},
		{slices.Concat(steps(4096), steps(4)), 4096, back(4096, 4)},
		{slices.Concat(steps(4097), steps(4)), 4097, lit(128)},
		{make([]byte, 65536), 65535, lit(0)},
		{make([]byte, 65536), 65532, back(1, 4)},
		{make([]byte, 65536), 0, lit(0)},
	} {
		if x, e := lz.Longest(c.row, c.at); x != c.want || e != api.OK {
			t.Errorf("%.30q, at %d: %v, %d, not %v", c.row, c.at, x, e, c.want)
		}
	}
}

func TestLongestRefuses(t *testing.T) {
	full, more := make([]byte, 65536), make([]byte, 65537)
	for _, c := range []struct {
		row  []byte
		at   int
		want api.Errno
	}{
		{nil, 0, api.ErrRange},
		{[]byte{}, 0, api.ErrRange},
		{nil, -1, api.ErrRange},
		{[]byte("a"), 1, api.ErrRange},
		{[]byte("a"), -1, api.ErrRange},
		{[]byte("abcd"), 4, api.ErrRange},
		{[]byte("abcd"), 5, api.ErrRange},
		{[]byte("abcd"), math.MaxInt, api.ErrRange},
		{[]byte("abcd"), math.MinInt, api.ErrRange},
		{full, 65536, api.ErrRange},
		{full, -1, api.ErrRange},
		{more, 0, api.ErrLong},
		{more, 65536, api.ErrLong},
		{more, -1, api.ErrLong}, // named ahead of ErrRange
		{more, 65537, api.ErrLong},
		{more, math.MinInt, api.ErrLong},
	} {
		if x, e := lz.Longest(c.row, c.at); x != (api.Token{}) || e != c.want {
			t.Errorf("%d bytes, at %d: %v, %d, not %d", len(c.row), c.at, x, e, c.want)
		}
	}
	hidden := full[:4] // what lies behind its end plays no part
	if x, e := lz.Longest(hidden, 1); x != lit(0) || e != api.OK {
		t.Errorf("behind the end: %v, %d", x, e)
	}
}

func TestTokensRefuses(t *testing.T) {
	for _, n := range []int{65537, 65538, 100000} {
		if l, e := lz.Tokens(make([]byte, n)); len(l) != 0 || e != api.ErrLong {
			t.Errorf("%d bytes: %d tokens, %d", n, len(l), e)
		}
	}
	if l, e := lz.Tokens(make([]byte, 65536)); e != api.OK || len(l) != 1+254+3 || l[254] != back(1, 258) || l[257] != lit(0) {
		t.Errorf("as many as may be: %d tokens, %d", len(l), e)
	}
}

// P6.3

func TestBytesThatWereReckonedByHand(t *testing.T) {
	for _, c := range []struct {
		l    []api.Token
		want string
	}{
		{nil, ""},
		{[]api.Token{}, ""},
		{lits("a"), "a"},
		{[]api.Token{lit(0), lit(255)}, "\x00\xff"},
		{join(lits("abc"), []api.Token{back(3, 6)}, lits("d")), "abcabcabcd"},
		{join(lits("a"), []api.Token{back(1, 4)}), "aaaaa"},
		{join(lits("a"), []api.Token{back(1, 258)}), strings.Repeat("a", 259)},
		{join(lits("ab"), []api.Token{back(2, 5), back(1, 4), back(7, 7)}), "abababaaaaaabaaaaa"},
		{join(lits("ab"), []api.Token{back(1, 4), back(6, 8)}), "abbbbbabbbbbab"},
		{join(lits("abcd"), []api.Token{back(4, 4), back(5, 4)}), "abcdabcddabc"}, // not the tokens that Tokens tells
		{join(lits(string(steps(4096))), []api.Token{back(4096, 4)}), string(steps(4096)) + string(steps(4))},
		{join(lits(string(steps(4097))), []api.Token{back(4096, 4)}), string(steps(4097)) + string(steps(5)[1:])},
	} {
		if b, at, e := lz.Bytes(c.l...); string(b) != c.want || at != 0 || e != api.OK {
			t.Errorf("Bytes(%.200v): %.60q, %d, %d, not %.60q", c.l, b, at, e, c.want)
		}
	}
}

// anyTokens are tokens that mostly can be made.
func anyTokens(c *chance, n int) []api.Token {
	var l []api.Token
	for size := 0; len(l) < n; size += l[len(l)-1].Len {
		switch {
		case c.below(3) == 0 || size == 0:
			l = append(l, lit(byte(c.below(256))))
		default:
			l = append(l, back(1+c.below(min(size, 4096)), 4+c.below(255)))
		}
	}
	return l
}

func TestBytesOfAnyTokens(t *testing.T) {
	c := chance(65)
	wrong := append(wrongTokens(), slices.Repeat([]api.Token{back(4096, 4), back(300, 258), back(2, 4)}, 8)...)
	seen := map[api.Errno]int{}
	for range 1500 {
		l := anyTokens(&c, 1+c.below(1000))
		for range c.below(3) {
			l[c.below(min(len(l), 1+c.below(1000)))] = wrong[c.below(len(wrong))]
		}
		b, at, e := lz.Bytes(l...)
		want, place, errno := wordedBytes(l)
		if e != errno || at != place || !bytes.Equal(b, want) {
			t.Fatalf("%.300v: %d bytes, %d, %d, not %d, %d, %d", l, len(b), at, e, len(want), place, errno)
		}
		seen[e]++
	}
	for _, e := range []api.Errno{api.OK, api.ErrToken, api.ErrDist, api.ErrLong} {
		if seen[e] < 20 {
			t.Errorf("answered with %d only %d times", e, seen[e])
		}
	}
}

func TestBytesRefuses(t *testing.T) {
	full := join(lits("a"), slices.Repeat([]api.Token{back(1, 255)}, 257)) // 65536 bytes
	none := api.Token{Dist: 1, Len: 3}
	for _, c := range []struct {
		l     []api.Token
		place int
		want  api.Errno
	}{
		{[]api.Token{none}, 0, api.ErrToken},
		{[]api.Token{lit(1), none}, 1, api.ErrToken},
		{[]api.Token{lit(1), none, {Len: 2}}, 1, api.ErrToken},
		{[]api.Token{lit(1), {Len: 2}, none}, 1, api.ErrToken},
		{[]api.Token{back(1, 4)}, 0, api.ErrDist},
		{[]api.Token{lit(1), back(2, 4)}, 1, api.ErrDist},
		{[]api.Token{lit(1), back(1, 4), back(6, 4)}, 2, api.ErrDist},
		{[]api.Token{lit(1), back(1, 4), back(5, 4)}, 0, api.OK},
		{[]api.Token{lit(1), back(4096, 4)}, 1, api.ErrDist},
		{[]api.Token{lit(1), {Dist: 4097, Len: 4}}, 1, api.ErrToken}, // named ahead of ErrDist
		{[]api.Token{lit(1), {Dist: 2, Len: 3}}, 1, api.ErrToken},
		{[]api.Token{{Dist: 2, Len: 4, Lit: 1}}, 0, api.ErrToken},
		{[]api.Token{lit(1), none, back(9, 4)}, 1, api.ErrToken}, // the first token counts, whatever is wrong with the next
		{[]api.Token{lit(1), back(9, 4), none}, 1, api.ErrDist},
		{[]api.Token{lit(1), lit(2), back(3, 4), back(3, 4)}, 2, api.ErrDist},
		{join(lits(string(steps(4095))), []api.Token{back(4096, 4)}), 4095, api.ErrDist},
		{join(lits(string(steps(4096))), []api.Token{back(4096, 4)}), 0, api.OK},
		{full, 0, api.OK},
		{join(full, lits("a")), len(full), api.ErrLong},
		{join(full, []api.Token{back(4096, 258)}), len(full), api.ErrLong},
		{join(full, []api.Token{none}), len(full), api.ErrToken}, // named ahead of ErrLong
		{join(full, []api.Token{{}}), len(full), api.ErrToken},
		{join(full, lits("a"), []api.Token{none}), len(full), api.ErrLong},
		{join(full, full), len(full), api.ErrLong},
		{join(full[:257], lits(strings.Repeat("b", 251)), []api.Token{back(9, 4)}), 0, api.OK},
		{join(full[:257], lits(strings.Repeat("b", 252)), []api.Token{back(9, 4)}), 257 + 252, api.ErrLong},
		{join(full[:257], []api.Token{back(1, 256), lit(1)}), 257, api.ErrLong}, // what comes behind would have room
		{lits(strings.Repeat("b", 65536)), 0, api.OK},
		{lits(strings.Repeat("b", 65537)), 65536, api.ErrLong},
		{lits(strings.Repeat("b", 70000)), 65536, api.ErrLong},
	} {
		b, at, e := lz.Bytes(c.l...)
		if e != c.want || at != c.place || e != api.OK && len(b) != 0 {
			t.Errorf("%d tokens: %d bytes, %d, %d, not %d, %d", len(c.l), len(b), at, e, c.place, c.want)
		}
	}
}

func TestBytesOfEachWrongToken(t *testing.T) {
	for _, x := range wrongTokens() {
		for ahead := range 6 {
			l := join(lits("abcde")[:ahead], []api.Token{x}, lits("fg"))
			if b, at, e := lz.Bytes(l...); len(b) != 0 || at != ahead || e != api.ErrToken {
				t.Errorf("%v behind %d: %q, %d, %d", x, ahead, b, at, e)
			}
		}
	}
}

// P6.4

func TestBytesOfTokensAreTheBytes(t *testing.T) {
	for _, row := range allRows() {
		l, e := lz.Tokens(row)
		if e != api.OK {
			t.Fatalf("%.40q: %d", row, e)
		}
		if b, at, e := lz.Bytes(l...); !bytes.Equal(b, row) || at != 0 || e != api.OK {
			t.Fatalf("%.40q, %d bytes: %.40q, %d bytes, %d, %d", row, len(row), b, len(b), at, e)
		}
	}
}

// P6.5

func TestTokensAreNotMoreThanBytes(t *testing.T) {
	for _, b := range allRows() {
		if l, _ := lz.Tokens(b); len(l) > len(b) || len(b) > 0 && len(l) == 0 {
			t.Errorf("%.40q, %d bytes: %d tokens", b, len(b), len(l))
		}
	}
}

func TestNoCopyCanBeLonger(t *testing.T) {
	ends := map[string]int{}
	for _, b := range allRows() {
		l, _ := lz.Tokens(b)
		at := 0
		for i, x := range l {
			at += x.Len
			switch {
			case x.Dist == 0:
				ends["literal"]++
			case x.Len == 258:
				ends["most"]++
			case at == len(b):
				ends["end"]++
			case b[at] != b[at-x.Dist]:
				ends["other"]++
			default:
				t.Fatalf("%.40q, %d bytes: token %d, %v, up to %d, can be longer", b, len(b), i, x, at)
			}
		}
	}
	for _, how := range []string{"literal", "most", "end", "other"} {
		if ends[how] < 20 {
			t.Errorf("only %d tokens end by: %s", ends[how], how)
		}
	}
}

// P6.6

func TestTokensOfABeginning(t *testing.T) {
	for _, row := range slices.Concat(shortRows(2, 10), longRows()) {
		for _, n := range []int{0, 1, 4, 5, 9, len(row) / 3, len(row) / 2, len(row) - 4, len(row) - 1, len(row)} {
			if n < 0 || n > len(row) {
				continue
			}
			l, _ := lz.Tokens(row[:n])
			if b, at, e := lz.Bytes(l...); !bytes.Equal(b, row[:n]) || at != 0 || e != api.OK {
				t.Fatalf("%.40q, %d of %d bytes: %d bytes, %d, %d", row, n, len(row), len(b), at, e)
			}
		}
	}
}

func TestABeginningOfTokens(t *testing.T) {
	for _, row := range slices.Concat(shortRows(2, 10), longRows()) {
		l, _ := lz.Tokens(row)
		for _, n := range []int{0, 1, 2, 5, len(l) / 3, len(l) / 2, len(l) - 1, len(l)} {
			if n < 0 || n > len(l) {
				continue
			}
			b, at, e := lz.Bytes(l[:n]...)
			size, errno := lz.Size(l[:n]...)
			if !bytes.HasPrefix(row, b) || len(b) != size || at != 0 || e != api.OK || errno != api.OK {
				t.Fatalf("%.40q: %d of %d tokens: %.40q, size %d, %d, %d, %d", row, n, len(l), b, size, at, e, errno)
			}
		}
	}
}

func TestABeginningsTokensButTheLastOnesAreTheRows(t *testing.T) {
	c := chance(66)
	for _, row := range longRows() {
		whole, _ := lz.Tokens(row)
		n := c.below(len(row) + 1)
		cut, _ := lz.Tokens(row[:n])
		at := 0
		for i, x := range cut {
			if at+258 > n {
				break // a token here may be another one: the bytes end
			}
			if whole[i] != x {
				t.Fatalf("%.40q, %d of %d bytes: token %d is %v, not %v", row, n, len(row), i, x, whole[i])
			}
			at += x.Len
		}
	}
}

// What holds everywhere.

func TestArgumentsStay(t *testing.T) {
	b := times("abcabd", 40)
	was := bytes.Clone(b)
	l, _ := lz.Tokens(b)
	kept := slices.Clone(l)
	lz.Longest(b, 9)
	lz.Size(l...)
	lz.Bytes(l...)
	lz.Bytes(append(slices.Clone(l), api.Token{})...)
	if !bytes.Equal(b, was) || !slices.Equal(l, kept) {
		t.Error("an argument was changed")
	}
}

func TestAnswersAreNew(t *testing.T) {
	row := []byte("abcabcabcd")
	l, _ := lz.Tokens(row)
	b, _, _ := lz.Bytes(l...)
	clear(b)
	if string(row) != "abcabcabcd" {
		t.Error("bytes are shared with the row")
	}
	if again, _, _ := lz.Bytes(l...); string(again) != "abcabcabcd" {
		t.Error("bytes are shared with an answer")
	}
	clear(row)
	if again, _, _ := lz.Bytes(l...); string(again) != "abcabcabcd" {
		t.Error("tokens hang on the row")
	}
	kept := slices.Clone(l)
	clear(l)
	if again, _ := lz.Tokens([]byte("abcabcabcd")); !slices.Equal(again, kept) {
		t.Error("tokens are shared with an answer")
	}
}

func TestTheSameAnswerAgain(t *testing.T) {
	c := chance(67)
	b := woven(&c, 20000)
	first, _ := lz.Tokens(b)
	for range 5 {
		lz.Tokens(c.row(3000, 3))
		if l, _ := lz.Tokens(b); !slices.Equal(l, first) {
			t.Fatal("other tokens")
		}
	}
}
