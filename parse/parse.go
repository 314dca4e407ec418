// Package parse reads bytes strictly, one behind the other, for the layers whose things have one form as bytes.
package parse

import (
	"saltern/api"
	"saltern/word"
)

// fault is what reading panics with where bytes are not what they should be.
type fault struct{}

// Need is a fault where something does not hold: it may be called within Caught alone, and so may a Rest's methods.
func Need(holds bool) {
	if !holds {
		panic(fault{})
	}
}

// Caught is what reading answers, or the error e where it came upon a fault.
func Caught[T any](e api.Errno, read func() T) (x T, told api.Errno) {
	defer func() {
		r := recover()
		if r == nil {
			return
		}
		if _, ok := r.(fault); !ok {
			panic(r) // a mistake of the program, not of what it reads
		}
		told = e
	}()
	return read(), api.OK
}

// Rest is what is left to be read; a layer's reader embeds it.
type Rest struct {
	left []byte
}

// Of is all of some bytes.
func Of(b []byte) Rest {
	return Rest{b}
}

// Len is how many bytes are left.
func (r *Rest) Len() int {
	return len(r.left)
}

// Take takes n bytes: they are those that were handed in, no copy.
func (r *Rest) Take(n int) []byte {
	Need(n >= 0 && n <= len(r.left))
	b := r.left[:n:n]
	r.left = r.left[n:]
	return b
}

// Byte takes one.
func (r *Rest) Byte() byte {
	return r.Take(1)[0]
}

// Number takes a varint that is at most so much.
func (r *Rest) Number(most int) int {
	x, n, e := word.Read(r.left)
	Need(e == api.OK && most >= 0 && x <= uint64(most))
	r.Take(n)
	return int(x)
}

// Digest takes one.
func (r *Rest) Digest() api.Digest {
	var d api.Digest
	copy(d[:], r.Take(len(d)))
	return d
}
