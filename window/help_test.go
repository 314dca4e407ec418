package window_test

import (
	"bytes"
	"math"
	"slices"
	"testing"

	"saltern/api"
	"saltern/window"
)

// chance is numbers without a pattern, always the same ones.
type chance uint64

func (c *chance) below(n int) int {
	*c = *c*6364136223846793005 + 1442695040888963407
	return int(uint64(*c)>>33) % n
}

// one is one of these.
func (c *chance) one(l ...int) int { return l[c.below(len(l))] }

func (c *chance) bytes(n int) []byte {
	b := make([]byte, n)
	for i := range b {
		b[i] = byte(c.below(256))
	}
	return b
}

// goodSizes and badSizes are those that the chapter's words let be, and not, at their edges.
func goodSizes() []int { return []int{1, 2, 3, 5, 32, 63, 64} }
func badSizes() []int  { return []int{0, 65, -1, -64, 128, math.MinInt, math.MaxInt} }

func goodAgains() []int { return []int{1, 2, 7, 1000, 1<<20 - 1, 1 << 20} }
func badAgains() []int  { return []int{0, 1<<20 + 1, -1, 1 << 40, math.MinInt, math.MaxInt} }

// made is a sender to which so many payloads were pushed, each of one byte, its number.
func made(t *testing.T, size, again, payloads int) *window.Sender {
	t.Helper()
	s, e := window.NewSender(size, again)
	if e != api.OK || s == nil {
		t.Fatalf("NewSender(%d, %d): %v, %d", size, again, s, e)
	}
	for i := range payloads {
		push(t, s, i+1, byte(i+1))
	}
	return s
}

func taker(t *testing.T, size int) *window.Taker {
	t.Helper()
	r, e := window.NewTaker(size)
	if e != api.OK || r == nil {
		t.Fatalf("NewTaker(%d): %v, %d", size, r, e)
	}
	return r
}

// push pushes bytes, which are to have a number.
func push(t *testing.T, s *window.Sender, want int, b ...byte) {
	t.Helper()
	if n, e := s.Push(b); n != want || e != api.OK {
		t.Fatalf("Push: %d, %d, not %d", n, e, want)
	}
}

// due are the numbers that are due.
func due(t *testing.T, s *window.Sender, now int) []int {
	t.Helper()
	l, e := s.Due(now)
	if e != api.OK {
		t.Fatalf("Due(%d): %d", now, e)
	}
	return numbers(l)
}

// dues asks for what is due, and of which numbers that is to be.
func dues(t *testing.T, s *window.Sender, now int, want ...int) {
	t.Helper()
	if l := due(t, s, now); !slices.Equal(l, want) {
		t.Errorf("Due(%d): %d, not %d", now, l, want)
	}
}

// late asks for what is due at a time that is none.
func late(t *testing.T, s *window.Sender, now int) {
	t.Helper()
	if l, e := s.Due(now); l != nil || e != api.ErrWindow {
		t.Errorf("Due(%d): %v, %d", now, l, e)
	}
}

// acks acknowledges, and is to be the first to tell of so many.
func acks(t *testing.T, s *window.Sender, all int, more uint64, want int) {
	t.Helper()
	if n, e := s.Ack(all, more); n != want || e != api.OK {
		t.Errorf("Ack(%d, %x): %d, %d, not %d", all, more, n, e, want)
	}
}

// unsent acknowledges what was not sent.
func unsent(t *testing.T, s *window.Sender, all int, more uint64) {
	t.Helper()
	if n, e := s.Ack(all, more); n != 0 || e != api.ErrAck {
		t.Errorf("Ack(%d, %x): %d, %d", all, more, n, e)
	}
}

func stands(t *testing.T, s *window.Sender, base, last int) {
	t.Helper()
	if a, b := s.State(); a != base || b != last {
		t.Errorf("State: %d, %d, not %d, %d", a, b, base, last)
	}
}

func numbers(l []api.Payload) []int {
	var out []int
	for _, p := range l {
		out = append(out, p.N)
	}
	return out
}

// takes takes a payload of one byte, its number; those of these numbers are to be handed on, with theirs.
func takes(t *testing.T, r *window.Taker, n int, want ...int) {
	t.Helper()
	l, e := r.Take(api.Payload{N: n, B: []byte{byte(n)}})
	if e != api.OK || !slices.Equal(numbers(l), want) {
		t.Fatalf("Take of %d: %v, %d, not %d", n, l, e, want)
	}
	for _, p := range l {
		if len(p.B) != 1 || p.B[0] != byte(p.N) {
			t.Errorf("Take of %d: %d has %x", n, p.N, p.B)
		}
	}
}

// ahead takes a number that may not be.
func ahead(t *testing.T, r *window.Taker, n int) {
	t.Helper()
	if l, e := r.Take(api.Payload{N: n, B: []byte("far")}); l != nil || e != api.ErrAhead {
		t.Errorf("Take of %d: %v, %d", n, l, e)
	}
}

// told is what is to be acknowledged.
func told(t *testing.T, r *window.Taker, all int, more uint64) {
	t.Helper()
	if a, m := r.Acks(); a != all || m != more {
		t.Errorf("Acks: %d, %x, not %d, %x", a, m, all, more)
	}
}

// alike tells whether payloads are; no bytes are the same, nil or not.
func alike(a, b []api.Payload) bool {
	return slices.EqualFunc(a, b, func(p, q api.Payload) bool { return p.N == q.N && bytes.Equal(p.B, q.B) })
}

// nobodySenders and nobodyTakers are those that no call made.
func nobodySenders() []*window.Sender { return []*window.Sender{nil, {}, new(window.Sender)} }
func nobodyTakers() []*window.Taker   { return []*window.Taker{nil, {}, new(window.Taker)} }
