package codec_test

import (
	"bytes"
	"encoding/binary"
	"encoding/hex"
	"fmt"
	"slices"
	"strings"
	"testing"

	"saltern/api"
	"saltern/codec"
	"saltern/huff"
	"saltern/lz"
)

// chance is numbers without a pattern, always the same ones.
type chance uint64

func (c *chance) below(n int) int {
	*c = *c*6364136223846793005 + 1442695040888963407
	return int(uint64(*c)>>33) % n
}

// row is n bytes without a pattern, of so many different ones.
func (c *chance) row(n, kinds int) []byte {
	b := make([]byte, n)
	for i := range b {
		b[i] = byte(c.below(kinds))
	}
	return b
}

// tokens are n without a pattern, of so many different bytes, distances and lengths; whether they can be made plays no part.
func (c *chance) tokens(n, kinds int) []api.Token {
	var l []api.Token
	for range n {
		if c.below(3) > 0 {
			l = append(l, lit(byte(c.below(min(kinds, 256)))))
		} else {
			l = append(l, back(1+c.below(min(kinds, 4096)), 4+c.below(min(kinds, 255))))
		}
	}
	return l
}

func lit(b byte) api.Token       { return api.Token{Len: 1, Lit: b} }
func back(dist, n int) api.Token { return api.Token{Dist: dist, Len: n} }

func lits(text string) []api.Token {
	var l []api.Token
	for i := range len(text) {
		l = append(l, lit(text[i]))
	}
	return l
}

func join(rows ...[]api.Token) []api.Token { return slices.Concat(rows...) }

func repeat(t api.Token, n int) []api.Token { return slices.Repeat([]api.Token{t}, n) }

// raw is the bytes of a text of hexadecimal digits, spaces left out.
func raw(t *testing.T, text string) []byte {
	t.Helper()
	b, err := hex.DecodeString(strings.ReplaceAll(text, " ", ""))
	if err != nil {
		t.Fatal(err)
	}
	return b
}

func varint(n int) []byte { return binary.AppendUvarint(nil, uint64(n)) }

// parts are the four of packed tokens.
type parts struct {
	first, second, count, bits []byte
}

func (p parts) bytes() []byte { return slices.Concat(p.first, p.second, p.count, p.bits) }

// wordedLengths are lengths as bytes, by the chapter's words.
func wordedLengths(lengths []int) []byte {
	var b []byte
	run := 0
	for i, n := range lengths {
		run++
		if i+1 == len(lengths) || lengths[i+1] != n {
			b = append(append(b, byte(n)), varint(run)...)
			run = 0
		}
	}
	return b
}

// bitsOf are the bytes of a text of 0 and 1.
func bitsOf(text string) []byte {
	var b []byte
	for i := 0; i < len(text); i += 8 {
		c := byte(0)
		for k := range 8 {
			c <<= 1
			if i+k < len(text) && text[i+k] == '1' {
				c++
			}
		}
		b = append(b, c)
	}
	return b
}

// codeTexts are symbols' codes as texts of 0 and 1.
func codeTexts(lengths []int) []string {
	codes, _ := huff.Codes(lengths)
	l := make([]string, len(lengths))
	for s, n := range lengths {
		if n > 0 {
			l[s] = fmt.Sprintf("%0*b", n, codes[s])
		}
	}
	return l
}

// wordedBits are the bits of tokens by two codes, by the chapter's words.
func wordedBits(l []api.Token, first, second []int) []byte {
	var text strings.Builder
	codes, dists := codeTexts(first), codeTexts(second)
	for _, t := range l {
		if t.Dist == 0 {
			text.WriteString(codes[t.Lit])
			continue
		}
		binary := fmt.Sprintf("%b", t.Dist)
		text.WriteString(codes[252+t.Len])
		text.WriteString(dists[len(binary)-1])
		text.WriteString(binary[1:])
	}
	return bitsOf(text.String())
}

// wordedCounts are how often the symbols of tokens and of distances come, by the chapter's words.
func wordedCounts(l []api.Token) ([]int, []int) {
	first, second := make([]int, 511), make([]int, 13)
	for _, t := range l {
		if t.Dist == 0 {
			first[t.Lit]++
		} else {
			first[252+t.Len]++
			second[len(fmt.Sprintf("%b", t.Dist))-1]++
		}
	}
	return first, second
}

// wordedParts are packed tokens, by the chapter's words.
func wordedParts(l []api.Token) parts {
	counts, dists := wordedCounts(l)
	first, _ := huff.Lengths(counts...)
	second, _ := huff.Lengths(dists...)
	return partsBy(l, first, second)
}

// partsBy are tokens packed by codes that may be others than those of their counts.
func partsBy(l []api.Token, first, second []int) parts {
	return parts{wordedLengths(first), wordedLengths(second), varint(len(l)), wordedBits(l, first, second)}
}

// wordedPack are packed tokens, by the chapter's words.
func wordedPack(l []api.Token) []byte { return wordedParts(l).bytes() }

// wordedCode is a row's code, by the chapter's words.
func wordedCode(form byte, row []byte) []byte {
	b := append([]byte{form}, varint(len(row))...)
	if form == 0 {
		return append(b, row...)
	}
	l, _ := lz.Tokens(row)
	return append(b, wordedPack(l)...)
}

// tallRow is bytes whose counts' tree is deeper than 15: each comes as often as the two ahead of it together.
func tallRow() []byte {
	var b []byte
	for i, n, next := 0, 1, 1; len(b)+n <= 65536; i++ {
		b = append(b, bytes.Repeat([]byte{byte(i)}, n)...)
		n, next = next, n+next
	}
	return b
}

// edgeTokens are those that the chapter's edges ask for.
func edgeTokens() [][]api.Token {
	l := [][]api.Token{
		nil,
		{lit(0)}, {lit('a')}, {lit(255)},
		{back(1, 4)}, {back(1, 258)}, {back(4096, 4)}, {back(4096, 258)},
		{lit(7), back(1, 9), back(4096, 258)},
		{back(1, 4), back(2, 4), back(3, 4), back(4, 4), back(2047, 4), back(2048, 4), back(4095, 4), back(4096, 4)},
		repeat(lit('a'), 7), repeat(lit('a'), 8), repeat(lit('a'), 9), repeat(lit(0), 65536),
		repeat(back(1, 4), 4), repeat(back(1, 4), 5), repeat(back(4096, 256), 256), repeat(back(4095, 4), 16384),
		lits("ab"), lits("aab"), lits("abcdefgh"),
		lits(string(tallRow())),
	}
	var dists, lens, all []api.Token
	for i := range 13 {
		dists = append(dists, back(1<<i, 4), back(min(1<<(i+1)-1, 4096), 5))
	}
	for n := 4; n <= 258; n++ {
		lens = append(lens, back(n, n))
	}
	for c := range 256 {
		all = append(all, lit(byte(c)))
	}
	return append(l, dists, lens, all, join(all, lens))
}

// manyTokens are the edges, and others without a pattern.
func manyTokens() [][]api.Token {
	l := edgeTokens()
	c := chance(70)
	for _, kinds := range []int{1, 2, 3, 9, 60, 300, 5000} {
		for _, n := range []int{1, 2, 3, 5, 17, 100, 700} {
			l = append(l, c.tokens(n, kinds))
		}
	}
	return l
}

// manyRows are such as can be packed well, hardly and not at all.
func manyRows() [][]byte {
	c := chance(71)
	l := [][]byte{nil, {}, {0}, {255}, []byte("ab"), bytes.Repeat([]byte("a"), 100), bytes.Repeat([]byte("abcabd"), 700), tallRow()}
	for n := range 40 {
		l = append(l, bytes.Repeat([]byte("a"), n), c.row(n, 2), c.row(n, 256))
	}
	for _, n := range []int{127, 128, 129, 4096, 16383, 16384, 65535, 65536} {
		l = append(l, make([]byte, n), c.row(n, 2), c.row(n, 20), c.row(n, 256))
	}
	for n := 40; n < 4000; n += 97 {
		l = append(l, slices.Concat(c.row(n/3, 256), c.row(n/3, 3), bytes.Repeat(c.row(n/20, 256), 5)))
	}
	return l
}

// refusesTokens holds Unpack against bytes that are no tokens'.
func refusesTokens(t *testing.T, what string, b []byte, want api.Errno) {
	t.Helper()
	if l, e := codec.Unpack(b); len(l) != 0 || e != want {
		t.Errorf("Unpack, %s: %d tokens, %d, not %d", what, len(l), e, want)
	}
}

// refusesRow holds Decode against bytes that are no row's code.
func refusesRow(t *testing.T, what string, b []byte, want api.Errno) {
	t.Helper()
	if row, e := codec.Decode(b); len(row) != 0 || e != want {
		t.Errorf("Decode, %s: %d bytes, %d, not %d", what, len(row), e, want)
	}
}
