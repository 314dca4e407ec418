package huff

import "saltern/api"

// tally is how many symbols have a code of each length; those that have none are not in it.
type tally [api.MaxBits + 1]int

// tallied is the tally of lengths, if they are a code's.
func tallied(lengths []int) (tally, api.Errno) {
	var many tally
	if len(lengths) > api.MaxSymbols {
		return tally{}, api.ErrLengths
	}
	for _, l := range lengths {
		if l < 0 || l > api.MaxBits {
			return tally{}, api.ErrLengths
		}
		if l > 0 {
			many[l]++
		}
	}
	if !many.whole() && many != (tally{}) && many != (tally{1: 1}) {
		return tally{}, api.ErrLengths
	}
	return many, api.OK
}

// whole tells whether the codes leave no bits over that are no symbol's.
func (many tally) whole() bool {
	sum := 0
	for l, n := range many {
		sum += n << (api.MaxBits - l)
	}
	return sum == 1<<api.MaxBits
}

// firsts are the codes of the first symbols of each length.
func (many tally) firsts() tally {
	var first tally
	for l := 1; l < len(many); l++ {
		first[l] = (first[l-1] + many[l-1]) << 1
	}
	return first
}

// byLength are the symbols that have a code, in the order of their codes.
func byLength(lengths []int, many tally) []int {
	var next tally
	for l := 1; l < len(many); l++ {
		next[l] = next[l-1] + many[l-1]
	}
	ordered := make([]int, len(lengths))
	for s, l := range lengths {
		if l > 0 {
			ordered[next[l]] = s
			next[l]++
		}
	}
	return ordered
}

// find is the place, in the order of codes, of the code that stands in b from that bit on, and how many bits it has; none: 0 bits.
func (many tally) find(b []byte, at int) (int, int) {
	code, first, place := 0, 0, 0
	for l := 1; l < len(many) && at < byteBits*len(b); l++ {
		code = code<<1 | bit(b, at)
		at++
		if code-first < many[l] {
			return place + code - first, l
		}
		place += many[l]
		first = (first + many[l]) << 1
	}
	return 0, 0
}

func bit(b []byte, at int) int {
	return int(b[at/byteBits]>>(byteBits-1-at%byteBits)) & 1
}

// writer puts codes into bytes.
type writer struct {
	bytes []byte
	open  uint32 // its lowest bits are in no byte yet
	n     int    // how many bits came
}

func (w *writer) put(code uint16, length int) {
	w.open = w.open<<length | uint32(code)
	left := w.n%byteBits + length
	for ; left >= byteBits; left -= byteBits {
		w.bytes = append(w.bytes, byte(w.open>>(left-byteBits)))
	}
	w.n += length
}

// end is all bytes, the last one filled with zeros, and how many bits came.
func (w *writer) end() ([]byte, int) {
	n := w.n
	if left := n % byteBits; left > 0 {
		w.put(0, byteBits-left)
	}
	return w.bytes, n
}
