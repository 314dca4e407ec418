package window_test

import (
	"math"
	"testing"

	"saltern/api"
	"saltern/window"
)

// P19.1: NewSender, Push, State.

func TestNewSender(t *testing.T) {
	for _, size := range goodSizes() {
		for _, again := range goodAgains() {
			s := made(t, size, again, 0)
			stands(t, s, 1, 0)
			dues(t, s, 0)
		}
	}
}

func TestNewSenderOfWhatMayNotBe(t *testing.T) {
	refused := func(size, again int) {
		t.Helper()
		if s, e := window.NewSender(size, again); s != nil || e != api.ErrWindow {
			t.Errorf("NewSender(%d, %d): %v, %d", size, again, s, e)
		}
	}
	for _, size := range badSizes() {
		for _, again := range append(goodAgains(), badAgains()...) {
			refused(size, again)
		}
	}
	for _, again := range badAgains() {
		for _, size := range goodSizes() {
			refused(size, again)
		}
	}
}

func TestNewSendersAreTheirOwn(t *testing.T) {
	a, b := made(t, 4, 5, 3), made(t, 4, 5, 1)
	dues(t, a, 100, 1, 2, 3)
	acks(t, a, 2, 0, 2)
	stands(t, b, 1, 1)
	dues(t, b, 7, 1)
}

func TestPushNumbersFromOneOn(t *testing.T) {
	for _, size := range goodSizes() {
		s := made(t, size, 5, 0)
		for n := 1; n <= 200; n++ {
			push(t, s, n, byte(n))
			stands(t, s, 1, n)
		}
	}
}

func TestPushOfNoBytes(t *testing.T) {
	s := made(t, 4, 5, 0)
	push(t, s, 1)
	push(t, s, 2, 7)
	if n, e := s.Push([]byte{}); n != 3 || e != api.OK {
		t.Errorf("Push of []byte{}: %d, %d", n, e)
	}
	l, e := s.Due(0)
	if want := []api.Payload{{N: 1}, {N: 2, B: []byte{7}}, {N: 3}}; e != api.OK || !alike(l, want) {
		t.Errorf("Due: %v, %d", l, e)
	}
}

func TestPushOfManyBytes(t *testing.T) {
	c := chance(1)
	b := c.bytes(1 << 20)
	s := made(t, 1, 5, 0)
	push(t, s, 1, b...)
	if l, e := s.Due(3); e != api.OK || !alike(l, []api.Payload{{N: 1, B: b}}) {
		t.Errorf("Due: %d, %d", numbers(l), e)
	}
}

// full is a sender that has as many payloads that are not acknowledged as may be, none of them sent.
func full(t *testing.T, size int) *window.Sender {
	t.Helper()
	s := made(t, size, 5, 0)
	for n := 1; n <= 65536; n++ {
		push(t, s, n, byte(n), byte(n>>8))
	}
	return s
}

func refusesMore(t *testing.T, s *window.Sender) {
	t.Helper()
	for range 2 {
		if n, e := s.Push([]byte("more")); n != 0 || e != api.ErrMany {
			t.Errorf("Push: %d, %d", n, e)
		}
	}
}

func TestPushBehindTheGreatestNumberOfOpenOnes(t *testing.T) {
	s := full(t, 64)
	refusesMore(t, s)
	stands(t, s, 1, 65536)
	if l := due(t, s, 10); len(l) != 64 || l[0] != 1 || l[63] != 64 {
		t.Errorf("Due: %d", l)
	}
	refusesMore(t, s) // what was sent is not acknowledged

	acks(t, s, 1, 0, 1)
	push(t, s, 65537, 1)
	refusesMore(t, s)
	stands(t, s, 2, 65537)

	acks(t, s, 3, 0, 2)
	push(t, s, 65538, 2)
	push(t, s, 65539, 3)
	refusesMore(t, s)
	stands(t, s, 4, 65539)
}

func TestPushBehindThoseThatAreAcknowledgedInTheMidst(t *testing.T) {
	s := full(t, 64)
	due(t, s, 0)
	acks(t, s, 0, 1<<3|1<<62, 2) // 5 and 64: the base stays
	stands(t, s, 1, 65536)
	push(t, s, 65537)
	push(t, s, 65538)
	refusesMore(t, s)
	stands(t, s, 1, 65538)

	acks(t, s, 5, 0, 4) // 5 was acknowledged ahead
	for n := 65539; n <= 65542; n++ {
		push(t, s, n)
	}
	refusesMore(t, s)
	stands(t, s, 6, 65542)
}

func TestPushBehindVoidAndDue(t *testing.T) {
	s := full(t, 1)
	if e := s.Void(); e != api.OK {
		t.Errorf("Void: %d", e)
	}
	refusesMore(t, s) // those without bytes are not acknowledged either
	dues(t, s, 0, 1)
	acks(t, s, 1, 0, 1)
	push(t, s, 65537)
	refusesMore(t, s)
}

func TestAllOfManyComeInOrder(t *testing.T) {
	s := full(t, 64)
	next := 1
	for now := 0; next <= 65536; now++ {
		l, e := s.Due(now)
		if e != api.OK || len(l) == 0 {
			t.Fatalf("Due(%d): %v, %d", now, l, e)
		}
		for _, p := range l {
			if p.N != next || len(p.B) != 2 || p.B[0] != byte(next) || p.B[1] != byte(next>>8) {
				t.Fatalf("Due: %v, not %d", p, next)
			}
			next++
		}
		acks(t, s, next-1, 0, len(l))
	}
	stands(t, s, 65537, 65536)
	push(t, s, 65537, 9)
	dues(t, s, math.MaxInt32, 65537)
}

func TestState(t *testing.T) {
	s := made(t, 4, 5, 0)
	stands(t, s, 1, 0) // none
	push(t, s, 1, 1)
	stands(t, s, 1, 1)
	for n := 2; n <= 6; n++ {
		push(t, s, n, byte(n))
	}
	stands(t, s, 1, 6)
	dues(t, s, 3, 1, 2, 3, 4)
	stands(t, s, 1, 6) // sent is not acknowledged
	acks(t, s, 0, 1<<0|1<<1, 2)
	stands(t, s, 1, 6) // 2 and 3, not 1
	acks(t, s, 1, 0, 1)
	stands(t, s, 4, 6) // 1, and 2 and 3 ahead of it
	dues(t, s, 3, 5, 6)
	acks(t, s, 4, 1, 2)
	stands(t, s, 5, 6) // 4 and 6
	acks(t, s, 6, 0, 1)
	stands(t, s, 7, 6) // all
	push(t, s, 7)
	stands(t, s, 7, 7)
}

func TestStateChangesNothing(t *testing.T) {
	s := made(t, 2, 5, 3)
	for range 3 {
		stands(t, s, 1, 3)
	}
	dues(t, s, 0, 1, 2)
	for range 3 {
		stands(t, s, 1, 3)
	}
	dues(t, s, 4)
}

func TestASenderThatNobodyMade(t *testing.T) {
	for i, s := range nobodySenders() {
		for range 2 {
			if n, e := s.Push([]byte("x")); n != 0 || e != api.ErrNil {
				t.Errorf("%d: Push: %d, %d", i, n, e)
			}
			for _, now := range []int{0, 5, -1, math.MaxInt} {
				if l, e := s.Due(now); l != nil || e != api.ErrNil {
					t.Errorf("%d: Due(%d): %v, %d", i, now, l, e)
				}
			}
			for _, all := range []int{0, 1, -1} {
				if n, e := s.Ack(all, 1); n != 0 || e != api.ErrNil {
					t.Errorf("%d: Ack(%d): %d, %d", i, all, n, e)
				}
			}
			if e := s.Void(); e != api.ErrNil {
				t.Errorf("%d: Void: %d", i, e)
			}
			stands(t, s, 0, 0)
		}
	}
}

func TestASenderThatIsCopiedIsTheSame(t *testing.T) {
	s := made(t, 2, 5, 3)
	c := *s
	dues(t, &c, 4, 1, 2)
	dues(t, s, 4)
	acks(t, s, 1, 0, 1)
	push(t, &c, 4)
	stands(t, s, 2, 4)
	stands(t, &c, 2, 4)
}

// Rule 4: what is handed in is neither changed nor kept; an answer is new memory.

func TestPushKeepsNothing(t *testing.T) {
	s := made(t, 2, 5, 0)
	b := []byte("hello")
	push(t, s, 1, b...)
	b[0] = 'j'
	if n, e := s.Push(b[:3:5]); n != 2 || e != api.OK || string(b) != "jello" {
		t.Errorf("Push: %d, %d, and then %q", n, e, b)
	}
	clear(b)
	want := []api.Payload{{N: 1, B: []byte("hello")}, {N: 2, B: []byte("jel")}}
	if l, e := s.Due(0); e != api.OK || !alike(l, want) {
		t.Errorf("Due: %v, %d", l, e)
	}
}

func TestWhatIsDueIsNewMemory(t *testing.T) {
	s := made(t, 3, 5, 0)
	push(t, s, 1, 'a', 'b')
	push(t, s, 2, 'c', 'd')
	want := []api.Payload{{N: 1, B: []byte("ab")}, {N: 2, B: []byte("cd")}}
	for now := 0; now < 30; now += 5 {
		l, e := s.Due(now)
		if e != api.OK || !alike(l, want) {
			t.Fatalf("Due(%d): %v, %d", now, l, e)
		}
		_ = append(l[0].B, "xyz"...)
		if !alike(l, want) {
			t.Fatalf("%d: the answers share memory: %v", now, l)
		}
		for i := range l {
			clear(l[i].B)
		}
		clear(l)
	}
}
