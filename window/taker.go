package window

import (
	"bytes"

	"saltern/api"
)

// Taker takes. A Taker that is copied as a value is the same taker.
type Taker struct{ in *taker }

// taker is which number a Taker waits for, and the bytes of those that came ahead of their turn, by their numbers.
type taker struct {
	size  int
	next  int
	early map[int][]byte
}

// NewTaker makes one.
func NewTaker(size int) (*Taker, api.Errno) {
	if !may(size) {
		return nil, api.ErrWindow
	}
	return &Taker{&taker{size: size, next: 1, early: map[int][]byte{}}}, api.OK
}

// Take takes one: those that can be handed on by it, in order.
func (t *Taker) Take(p api.Payload) ([]api.Payload, api.Errno) {
	if !t.made() {
		return nil, api.ErrNil
	}
	if p.N < 1 || p.N-t.in.size >= t.in.next {
		return nil, api.ErrAhead
	}
	if p.N < t.in.next || t.in.has(p.N) {
		return nil, api.OK
	}
	t.in.early[p.N] = bytes.Clone(p.B)
	return t.in.hand(), api.OK
}

// Acks is what is to be acknowledged.
func (t *Taker) Acks() (int, uint64) {
	if !t.made() {
		return 0, 0
	}
	all := t.in.next - 1
	var more uint64
	for n := range t.in.early {
		more |= bit(all, n)
	}
	return all, more
}

// Void takes the bytes of all that came ahead of its turn.
func (t *Taker) Void() api.Errno {
	if !t.made() {
		return api.ErrNil
	}
	for n := range t.in.early {
		t.in.early[n] = nil
	}
	return api.OK
}

// made tells whether NewTaker made it.
func (t *Taker) made() bool {
	return t != nil && t.in != nil
}

// has tells whether a payload is there, ahead of its turn.
func (t *taker) has(n int) bool {
	_, ok := t.early[n]
	return ok
}

// hand hands on those whose turn it is.
func (t *taker) hand() []api.Payload {
	var l []api.Payload
	for ; t.has(t.next); t.next++ {
		l = append(l, api.Payload{N: t.next, B: t.early[t.next]})
		delete(t.early, t.next)
	}
	return l
}
