package codec

import (
	"bytes"
	"slices"

	"saltern/api"
	"saltern/huff"
	"saltern/lz"
	"saltern/parse"
)

// rest is what is left to be read.
type rest struct {
	parse.Rest
}

// head is what a row's code says of the row ahead of all else.
type head struct {
	size   int
	packed bool
}

// lengths takes n lengths.
func (r *rest) lengths(n int) []int {
	var l []int
	for len(l) < n {
		length := int(r.Byte())
		many := r.Number(n - len(l))
		l = append(l, slices.Repeat([]int{length}, many)...)
	}
	return l
}

func (r *rest) head() head {
	form := r.Byte()
	parse.Need(form == stored || form == packed)
	return head{r.Number(api.MaxRaw), form == packed}
}

// row is the one of which all that is left is the code.
func (r *rest) row() []byte {
	h := r.head()
	if !h.packed {
		parse.Need(r.Len() == h.size)
		return bytes.Clone(r.Take(h.size))
	}
	l, e := Unpack(r.Take(r.Len()))
	parse.Need(e == api.OK)
	row, _, e := lz.Bytes(l...)
	parse.Need(e == api.OK && len(row) == h.size)
	return row
}

// reader reads what is left bit by bit, too.
type reader struct {
	rest
	last byte // the byte that was taken last
	n    int  // so many of its bits are left, the lowest ones
}

// bit takes one.
func (r *reader) bit() int {
	if r.n == 0 {
		r.last, r.n = r.Byte(), byteBits
	}
	r.n--
	return int(r.last>>r.n) & 1
}

// tokens takes all of them, with what stands ahead of them.
func (r *reader) tokens() []api.Token {
	first := treeOf(r.lengths(symbols))
	second := treeOf(r.lengths(distances))
	n := r.Number(api.MaxRaw) // each makes at least a byte
	var l []api.Token         // made as they come: there may be far fewer
	for range n {
		l = append(l, r.token(first, second))
	}
	return l
}

func (r *reader) token(first, second tree) api.Token {
	s := r.symbol(first)
	if s < literals {
		return api.Token{Len: 1, Lit: byte(s)}
	}
	dist := 1 // the highest bit is not told
	for range r.symbol(second) {
		dist = dist<<1 | r.bit()
	}
	return api.Token{Dist: dist, Len: s - copies}
}

// symbol takes a code.
func (r *reader) symbol(t tree) int {
	at := 0
	for at >= 0 {
		at = t[at][r.bit()]
		parse.Need(at != nothing)
	}
	return ^at
}

// tree is a code's, to be gone down bit by bit from its first branch on.
type tree []branch

// branch is what stands behind a bit of 0 and of 1: nothing, the place of another branch, or, below 0, a symbol, all its bits turned over.
type branch [2]int

// nothing is no branch's place: behind no bit one comes back to the first one.
const nothing = 0

func treeOf(lengths []int) tree {
	codes, e := huff.Codes(lengths)
	parse.Need(e == api.OK)
	t := tree{{}}
	for s, n := range lengths {
		if n > 0 {
			t = t.grown(s, codes[s], n)
		}
	}
	return t
}

// grown is a tree with a symbol's code of n bits in it.
func (t tree) grown(s int, code uint16, n int) tree {
	at := 0
	for n--; n > 0; n-- {
		bit := code >> n & 1
		if t[at][bit] == nothing {
			t[at][bit] = len(t)
			t = append(t, branch{})
		}
		at = t[at][bit]
	}
	t[at][code&1] = ^s
	return t
}
