package lz

import (
	"iter"

	"saltern/api"
)

// longest is the token at a place: the longest copy of what begins at one of the places from, of those as long the first one that comes; or a literal.
func longest(b []byte, at int, from iter.Seq[int]) api.Token {
	token := api.Token{Len: 1, Lit: b[at]}
	most := min(len(b)-at, api.MaxCopy)
	beaten := api.MinCopy - 1 // a copy counts from one byte more on
	for p := range from {
		if beaten >= most {
			break
		}
		if b[p+beaten] != b[at+beaten] { // spares most places the whole look
			continue
		}
		if n := common(b[p:], b[at:at+most]); n > beaten {
			token = api.Token{Dist: at - p, Len: n}
			beaten = n
		}
	}
	return token
}

// common is how many bytes at the beginnings of a and b are the same; b has no more than a.
func common(a, b []byte) int {
	n := 0
	for n < len(b) && a[n] == b[n] {
		n++
	}
	return n
}

// ahead are all places that a copy at a place may reach, the nearest one first.
func ahead(at int) iter.Seq[int] {
	return func(yield func(int) bool) {
		for p := at - 1; p >= 0 && at-p <= api.MaxChunk; p-- {
			if !yield(p) {
				return
			}
		}
	}
}

// four is the bytes of the shortest copy.
type four [api.MinCopy]byte

// places are those of a row at which the same four bytes stand, so that a copy's beginning is found without a look at all that stands ahead. They are told from 1 on: 0 is none.
type places struct {
	row   []byte
	last  map[four]int // the last place of four bytes
	prior []int        // by place: the one ahead of it with the same four bytes
}

func newPlaces(row []byte) *places {
	return &places{row: row, last: make(map[four]int), prior: make([]int, len(row))}
}

// key is the four bytes at a place, if there are as many.
func (s *places) key(at int) (four, bool) {
	if len(s.row)-at < api.MinCopy {
		return four{}, false
	}
	return four(s.row[at : at+api.MinCopy]), true
}

// add takes up a place that is behind all that were.
func (s *places) add(at int) {
	if k, ok := s.key(at); ok {
		s.prior[at] = s.last[k]
		s.last[k] = at + 1
	}
}

// alike are the places with the same four bytes that a copy at a place may reach, the nearest one first.
func (s *places) alike(at int) iter.Seq[int] {
	return func(yield func(int) bool) {
		k, ok := s.key(at)
		if !ok {
			return
		}
		for p := s.last[k]; p > 0 && at-(p-1) <= api.MaxChunk; p = s.prior[p-1] {
			if !yield(p - 1) {
				return
			}
		}
	}
}
