package window_test

import (
	"bytes"
	"math"
	"slices"
	"testing"

	"saltern/api"
	"saltern/window"
)

// sends and takings are what a sender and a taker do, and what the words' ones do.
type sends interface {
	Push(b []byte) (int, api.Errno)
	Due(now int) ([]api.Payload, api.Errno)
	Ack(all int, more uint64) (int, api.Errno)
	Void() api.Errno
	State() (int, int)
}

type takings interface {
	Take(p api.Payload) ([]api.Payload, api.Errno)
	Acks() (int, uint64)
	Void() api.Errno
}

// answer is whatever a call answers.
type answer struct {
	n, m int
	more uint64
	l    []api.Payload
	e    api.Errno
}

func (a answer) is(b answer) bool {
	return a.n == b.n && a.m == b.m && a.more == b.more && a.e == b.e && alike(a.l, b.l) && (a.e == api.OK || a.l == nil)
}

// sendCall is any call of a sender, at its edges and beyond them; now is a time that went by.
func (c *chance) sendCall(size, again, sent int, now *int) func(sends) answer {
	switch c.below(12) {
	case 0, 1, 2:
		b := c.bytes(c.below(4))
		return func(s sends) answer {
			n, e := s.Push(b)
			return answer{n: n, e: e}
		}
	case 3, 4, 5:
		at := *now + c.one(0, 0, 1, 2, again-1, again, again+1, c.below(2*again))
		*now = min(at, maxTime)
		return func(s sends) answer {
			l, e := s.Due(at)
			return answer{l: l, e: e}
		}
	case 6:
		at := c.one(-1, *now-1, maxTime+1, math.MinInt, math.MaxInt, *now/2)
		return func(s sends) answer {
			l, e := s.Due(at)
			return answer{l: l, e: e}
		}
	case 7:
		return func(s sends) answer { return answer{e: s.Void()} }
	case 8:
		all := c.one(-1, sent+1, math.MinInt, math.MaxInt, sent)
		more := uint64(c.one(0, 1, 1<<62)) << c.below(2)
		return func(s sends) answer {
			n, e := s.Ack(all, more)
			return answer{n: n, e: e}
		}
	default:
		all := c.one(max(sent-c.below(size+2), 0), max(sent-c.below(size+2), 0), c.below(sent+1))
		more := uint64(c.below(1<<31)) << c.below(33) >> c.below(64)
		if room := sent - all - 1; c.below(8) > 0 { // of what was sent
			more &= 1<<max(room, 0) - 1
		}
		return func(s sends) answer {
			n, e := s.Ack(all, more)
			return answer{n: n, e: e}
		}
	}
}

// P19.1 to P19.3, and P19.7: rows of calls against the words' sender.

func TestSendersAgainstTheWords(t *testing.T) {
	c := chance(3)
	for round := range 600 {
		size, again := c.one(goodSizes()...), c.one(goodAgains()...)
		s := made(t, size, again, 0)
		w := &wordedSender{size: size, again: again}
		now := c.one(0, 0, 7, maxTime-3*again)
		for step := range 1 + c.below(120) {
			call := c.sendCall(size, again, w.greatestSent(), &now)
			got, want := call(s), call(w)
			if !got.is(want) || len(got.l) > size {
				t.Fatalf("round %d, step %d, size %d, again %d: %v, not %v", round, step, size, again, got, want)
			}
			a, b := s.State()
			if x, y := w.State(); a != x || b != y {
				t.Fatalf("round %d, step %d: State: %d, %d, not %d, %d", round, step, a, b, x, y)
			}
		}
	}
}

// takeCall is any call of a taker, at its edges and beyond them.
func (c *chance) takeCall(size, waits int) func(takings) answer {
	switch c.below(16) {
	case 0:
		return func(r takings) answer { return answer{e: r.Void()} }
	case 1:
		n := c.one(0, -1, waits+size, waits+size+1, math.MinInt, math.MaxInt)
		return func(r takings) answer {
			l, e := r.Take(api.Payload{N: n, B: []byte("no")})
			return answer{l: l, e: e}
		}
	default:
		n := max(waits+c.one(0, 1, size-1, c.below(size), c.below(size), -1-c.below(size)), 1)
		b := c.bytes(c.below(4))
		return func(r takings) answer {
			l, e := r.Take(api.Payload{N: n, B: b})
			return answer{l: l, e: e}
		}
	}
}

// P19.4: rows of calls against the words' taker.

func TestTakersAgainstTheWords(t *testing.T) {
	c := chance(4)
	for round := range 600 {
		size := c.one(goodSizes()...)
		r := taker(t, size)
		w := &wordedTaker{size: size}
		for step := range 1 + c.below(200) {
			call := c.takeCall(size, w.handed+1)
			if got, want := call(r), call(w); !got.is(want) {
				t.Fatalf("round %d, step %d, size %d: %v, not %v", round, step, size, got, want)
			}
			a, m := r.Acks()
			if x, y := w.Acks(); a != x || m != y {
				t.Fatalf("round %d, step %d: Acks: %d, %x, not %d, %x", round, step, a, m, x, y)
			}
		}
	}
}

// acked is an acknowledgement on its way.
type acked struct {
	all  int
	more uint64
}

// net is a sender, a taker, and what is on its way between them.
type net struct {
	t      *testing.T
	c      *chance
	s      *window.Sender
	r      *window.Taker
	size   int
	again  int
	now    int
	pushed [][]byte
	there  []api.Payload
	back   []acked
	handed int
}

func newNet(t *testing.T, c *chance, size, takerSize, again int) *net {
	t.Helper()
	return &net{t: t, c: c, s: made(t, size, again, 0), r: taker(t, takerSize), size: size, again: again}
}

func (n *net) push() {
	n.t.Helper()
	b := n.c.bytes(n.c.below(6))
	push(n.t, n.s, len(n.pushed)+1, b...)
	n.pushed = append(n.pushed, b)
}

// send sends all that is due, which is never more than the sender's size.
func (n *net) send() []api.Payload {
	n.t.Helper()
	l, e := n.s.Due(n.now)
	if e != api.OK || len(l) > n.size {
		n.t.Fatalf("Due(%d): %v, %d", n.now, l, e)
	}
	return l
}

// take brings a payload; what is handed on must be the next ones, in order.
func (n *net) take(p api.Payload) {
	n.t.Helper()
	l, _ := n.r.Take(p)
	for _, q := range l {
		if q.N != n.handed+1 || q.N > len(n.pushed) || !bytes.Equal(q.B, n.pushed[q.N-1]) {
			n.t.Fatalf("%v was handed on behind %d", q, n.handed)
		}
		n.handed++
	}
	if all, _ := n.r.Acks(); all != n.handed {
		n.t.Fatalf("Acks: %d, when %d were handed on", all, n.handed)
	}
}

// hear brings an acknowledgement, which a taker told sometime; no base falls by it.
func (n *net) hear(a acked) {
	n.t.Helper()
	base, last := n.s.State()
	if _, e := n.s.Ack(a.all, a.more); e != api.OK {
		n.t.Fatalf("Ack(%d, %x): %d", a.all, a.more, e)
	}
	if b, l := n.s.State(); b < base || l != last || b > n.handed+1 {
		n.t.Fatalf("State: %d, %d behind %d, %d, when %d were handed on", b, l, base, last, n.handed)
	}
}

// drawn takes any one out, or leaves it for another time too.
func drawn[E any](c *chance, l *[]E) E {
	i := c.below(len(*l))
	x := (*l)[i]
	if c.below(4) > 0 {
		*l = slices.Delete(*l, i, i+1)
	}
	return x
}

// step is anything that a network and its two sides may do.
func (n *net) step() {
	n.t.Helper()
	n.now += n.c.one(0, 0, 1, n.again)
	switch n.c.below(8) {
	case 0:
		n.push()
	case 1, 2:
		n.there = append(n.there, n.send()...)
	case 3:
		all, more := n.r.Acks()
		n.back = append(n.back, acked{all, more})
	case 4, 5:
		if len(n.there) > 0 {
			n.take(drawn(n.c, &n.there))
		}
	case 6:
		if len(n.back) > 0 {
			n.hear(drawn(n.c, &n.back))
		}
	default: // one is lost
		if len(n.there) > 0 && n.c.below(2) == 0 {
			drawn(n.c, &n.there)
		} else if len(n.back) > 0 {
			drawn(n.c, &n.back)
		}
	}
}

// P19.5: what is handed on is a beginning of what was pushed, each once.

func TestWhatIsHandedOnIsABeginning(t *testing.T) {
	c := chance(5)
	reached := 0
	for range 300 {
		size, takerSize := c.one(goodSizes()...), c.one(goodSizes()...) // a smaller taker too
		n := newNet(t, &c, size, takerSize, c.one(1, 3, 20))
		for range 500 {
			n.step()
		}
		reached += n.handed
	}
	if reached < 300*20 {
		t.Errorf("only %d were handed on in all", reached)
	}
}

// fairRound brings all that is due to the taker, and its acknowledgement back.
func (n *net) fairRound() {
	n.t.Helper()
	n.now += n.again + n.c.one(0, 0, 1, 5)
	l := n.send()
	for len(l) > 0 { // in any order
		i := n.c.below(len(l))
		n.take(l[i])
		l = slices.Delete(l, i, i+1)
	}
	all, more := n.r.Acks()
	n.hear(acked{all, more})
}

// P19.6: from some time on all comes.

func TestAllComesInFairRounds(t *testing.T) {
	c := chance(6)
	for _, size := range goodSizes() {
		for _, takerSize := range []int{size, min(size+1, 64), 64} {
			for _, payloads := range []int{0, 1, size - 1, size, size + 1, 3 * size, 3*size + 1, 4*size - 1} {
				n := newNet(t, &c, size, takerSize, c.one(1, 3, 1<<20))
				for range payloads {
					n.push()
				}
				for range payloads/size + 1 {
					n.fairRound()
				}
				n.quiet(size)
			}
		}
	}
}

func TestAllComesInFairRoundsBehindAnything(t *testing.T) {
	c := chance(7)
	for range 400 {
		size := c.one(goodSizes()...)
		takerSize := c.one(size, min(size+1, 64), 64)
		n := newNet(t, &c, size, takerSize, c.one(1, 3, 20))
		for range c.below(300) {
			n.step()
		}
		base, last := n.s.State()
		for range (last-base+1)/size + 1 {
			n.fairRound()
		}
		n.quiet(size)
	}
}

// quiet asks whether all was handed on, and nothing is due any more.
func (n *net) quiet(size int) {
	n.t.Helper()
	if n.handed != len(n.pushed) {
		n.t.Errorf("size %d: %d were handed on, of %d", size, n.handed, len(n.pushed))
	}
	stands(n.t, n.s, len(n.pushed)+1, len(n.pushed))
	n.now += 2 * n.again
	if l := n.send(); len(l) != 0 {
		n.t.Errorf("size %d: Due: %d", size, numbers(l))
	}
}

func TestFewerRoundsThanAllNeeds(t *testing.T) {
	// A window that is not full is all that a round brings: with one round fewer not all comes.
	c := chance(8)
	n := newNet(t, &c, 4, 4, 3)
	for range 9 {
		n.push()
	}
	n.fairRound()
	n.fairRound()
	if n.handed != 8 {
		t.Errorf("%d were handed on", n.handed)
	}
	n.fairRound()
	n.quiet(4)
}
