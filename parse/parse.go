// Package parse reads bytes strictly, one behind the other, for the layers whose things have one form as bytes.
package parse

import (
	"saltern/api"
	"saltern/halt"
	"saltern/word"
)

// Need is a fault where something does not hold: it may be called within Caught alone, and so may a Rest's methods.
func Need(holds bool) {
	halt.Unless(holds, api.ErrArg) // whose place another error takes, which Caught is handed
}

// Caught is what reading answers, or the error e where it came upon a fault.
func Caught[T any](e api.Errno, read func() T) (T, api.Errno) {
	x, fault := halt.Caught(read)
	if fault != api.OK {
		return x, e
	}
	return x, api.OK
}

// Rest is what is left to be read; a layer's reader embeds it.
type Rest struct {
	left []byte
}

// Of is all of some bytes.
func Of(b []byte) Rest {
	return Rest{b}
}

// Len is how many bytes are left.
func (r *Rest) Len() int {
	return len(r.left)
}

// Take takes n bytes: they are those that were handed in, no copy.
func (r *Rest) Take(n int) []byte {
	Need(n >= 0 && n <= len(r.left))
	b := r.left[:n:n]
	r.left = r.left[n:]
	return b
}

// Byte takes one.
func (r *Rest) Byte() byte {
	return r.Take(1)[0]
}

// Number takes a varint that is at most so much.
func (r *Rest) Number(most int) int {
	x, n, e := word.Read(r.left)
	Need(e == api.OK && most >= 0 && x <= uint64(most))
	r.Take(n)
	return int(x)
}

// Digest takes one.
func (r *Rest) Digest() api.Digest {
	var d api.Digest
	copy(d[:], r.Take(len(d)))
	return d
}
