package codec

import (
	"saltern/api"
	"saltern/huff"
	"saltern/word"
)

// byteBits is how many bits a byte has.
const byteBits = 8

// code is that of symbols, by their place.
type code struct {
	lengths []int
	codes   []uint16
}

// codeOf is the code of symbols that come so often.
func codeOf(counts []int) code {
	// Neither can fail: a row has no more tokens than may be counted, and lengths of counts are a code's.
	lengths, _ := huff.Lengths(counts...)
	codes, _ := huff.Codes(lengths)
	return code{lengths, codes}
}

// runs are lengths as bytes.
func runs(lengths []int) []byte {
	var b []byte
	for from := 0; from < len(lengths); {
		to := from + 1
		for to < len(lengths) && lengths[to] == lengths[from] {
			to++
		}
		b = append(b, byte(lengths[from]))
		b = append(b, word.Varint(uint64(to-from))...)
		from = to
	}
	return b
}

// writer puts bits behind bytes.
type writer struct {
	bytes []byte
	free  int // how many bits of the last byte are not taken yet; they are 0
}

// token puts one, by the code of tokens and that of distances.
func (w *writer) token(t api.Token, first, second code) {
	w.symbol(first, symbol(t))
	if t.Dist > 0 {
		s := distance(t.Dist)
		w.symbol(second, s)
		w.put(t.Dist, s)
	}
}

func (w *writer) symbol(c code, s int) { w.put(int(c.codes[s]), c.lengths[s]) }

// put puts the n lowest bits of x, the highest one first.
func (w *writer) put(x, n int) {
	for n > 0 {
		if w.free == 0 {
			w.bytes = append(w.bytes, 0)
			w.free = byteBits
		}
		n--
		w.free--
		w.bytes[len(w.bytes)-1] |= byte(x>>n&1) << w.free
	}
}
