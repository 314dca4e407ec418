package window_test

import (
	"math"
	"slices"
	"testing"

	"saltern/api"
)

// P19.2: Due.

// maxTime is MaxTime.
const maxTime = 1 << 40

func TestDueIsTheWindow(t *testing.T) {
	for _, size := range goodSizes() {
		for _, payloads := range []int{0, 1, size - 1, size, size + 1, 200} {
			s := made(t, size, 5, payloads)
			l, e := s.Due(9)
			if e != api.OK || len(l) != min(size, payloads) {
				t.Errorf("size %d, %d payloads: %v, %d", size, payloads, l, e)
			}
			for i, p := range l {
				if p.N != i+1 || len(p.B) != 1 || p.B[0] != byte(p.N) {
					t.Errorf("size %d: place %d: %v", size, i, p)
				}
			}
			stands(t, s, 1, payloads)
		}
	}
}

func TestDueAgain(t *testing.T) {
	for _, again := range goodAgains() {
		for _, first := range []int{0, 1, 1000, maxTime - 1<<21} {
			s := made(t, 2, again, 3)
			dues(t, s, first, 1, 2)
			dues(t, s, first)
			dues(t, s, first+again-1)
			dues(t, s, first+again, 1, 2)
			dues(t, s, first+again)
			if again > 1 {
				dues(t, s, first+again+1) // it counts from the last sending
			}
			dues(t, s, first+2*again-1)
			dues(t, s, first+2*again, 1, 2)
		}
	}
}

func TestDueAtTheEndsOfTime(t *testing.T) {
	s := made(t, 2, 5, 1)
	dues(t, s, 0, 1)
	dues(t, s, 0)
	dues(t, s, maxTime-1, 1)
	dues(t, s, maxTime)
	push(t, s, 2, 2)
	dues(t, s, maxTime, 2)
	dues(t, s, maxTime)
	late(t, s, maxTime+1)
	late(t, s, maxTime-1)

	s = made(t, 2, 1, 1)
	dues(t, s, maxTime-1, 1)
	dues(t, s, maxTime, 1)
	dues(t, s, maxTime)
}

func TestDueOfATimeThatMayNotBe(t *testing.T) {
	for _, now := range []int{-1, -maxTime, math.MinInt, maxTime + 1, 2 * maxTime, math.MaxInt} {
		s := made(t, 2, 5, 3)
		late(t, s, now)
		dues(t, s, 0, 1, 2) // nothing was sent, and no time went by
		late(t, s, now)
		dues(t, s, 4)
		late(t, s, now)
		dues(t, s, 5, 1, 2)
	}
}

func TestDueOfAnEarlierTime(t *testing.T) {
	s := made(t, 2, 5, 3)
	dues(t, s, 10, 1, 2)
	for _, now := range []int{9, 0, 5, -1} {
		late(t, s, now)
	}
	dues(t, s, 10)
	dues(t, s, 15, 1, 2)
	late(t, s, 14)
	late(t, s, 10)
	dues(t, s, 15)
}

func TestDueOfATimeBehindARefusedOne(t *testing.T) {
	s := made(t, 2, 5, 3)
	dues(t, s, 10, 1, 2)
	late(t, s, maxTime+1)
	late(t, s, 3)
	late(t, s, 9) // above the one that was refused, below the greatest
	dues(t, s, 10)
	dues(t, s, 11)
	late(t, s, 10)
}

func TestATimeCountsWhereNothingIsDue(t *testing.T) {
	s := made(t, 2, 5, 0)
	dues(t, s, 20)
	late(t, s, 19)
	push(t, s, 1, 1)
	late(t, s, 19)
	dues(t, s, 20, 1)
	dues(t, s, 24)
	late(t, s, 23)
	acks(t, s, 1, 0, 1)
	dues(t, s, 30)
	late(t, s, 29)
}

func TestEachHasItsOwnTime(t *testing.T) {
	s := made(t, 4, 10, 1)
	dues(t, s, 0, 1)
	push(t, s, 2, 2)
	dues(t, s, 3, 2)
	push(t, s, 3, 3)
	push(t, s, 4, 4)
	dues(t, s, 9, 3, 4)
	dues(t, s, 10, 1)
	push(t, s, 5, 5) // behind the window
	dues(t, s, 13, 2)
	dues(t, s, 19, 3, 4)
	dues(t, s, 22, 1)
	dues(t, s, 23, 2)
	acks(t, s, 1, 0, 1)
	dues(t, s, 23, 5)
	dues(t, s, 33, 2, 3, 4, 5)
}

func TestDueWithAcknowledgedOnesInTheMidst(t *testing.T) {
	s := made(t, 5, 10, 9)
	dues(t, s, 0, 1, 2, 3, 4, 5)
	acks(t, s, 0, 1<<0|1<<2, 2) // 2 and 4: the window stays
	dues(t, s, 9)
	dues(t, s, 10, 1, 3, 5)
	acks(t, s, 1, 0, 1) // and 2: it goes on to 7
	dues(t, s, 10, 6, 7)
	dues(t, s, 20, 3, 5, 6, 7)
	acks(t, s, 3, 1<<0|1<<1|1<<2, 4) // 3, 5 to 7, and 4 ahead
	stands(t, s, 8, 9)
	dues(t, s, 20, 8, 9)
	acks(t, s, 7, 1, 1) // 9, the last one
	dues(t, s, 30, 8)
	push(t, s, 10, 10)
	dues(t, s, 30, 10)
	acks(t, s, 10, 0, 2)
	dues(t, s, 1000)
}

func TestWhatWasSentIsNotSentAnewByAMoveOfTheWindow(t *testing.T) {
	s := made(t, 3, 100, 6)
	dues(t, s, 1, 1, 2, 3)
	acks(t, s, 1, 0, 1)
	dues(t, s, 2, 4)
	acks(t, s, 3, 0, 2)
	dues(t, s, 3, 5, 6)
	dues(t, s, 102, 4)
	dues(t, s, 103, 5, 6)
}

// P19.7: what is due is never more than size.

func TestDueIsNeverMoreThanTheWindow(t *testing.T) {
	c := chance(2)
	for _, size := range goodSizes() {
		s := made(t, size, 3, 1000)
		now, sent := 0, 0
		for range 400 {
			now += c.below(5)
			l := due(t, s, now)
			base, last := s.State()
			if len(l) > size || !slices.IsSorted(l) {
				t.Fatalf("size %d: Due: %d", size, l)
			}
			for _, n := range l {
				if n < base || n >= base+size || n > last {
					t.Fatalf("size %d: %d is due at the base %d", size, n, base)
				}
				sent = max(sent, n)
			}
			if c.below(3) == 0 {
				s.Ack(c.below(min(sent, 1000)+1), 0)
			}
		}
	}
}
