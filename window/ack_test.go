package window_test

import (
	"math"
	"testing"

	"saltern/api"
	"saltern/window"
)

// P19.3: Ack, Void.

func TestAckOfNothing(t *testing.T) {
	s := made(t, 4, 5, 0)
	acks(t, s, 0, 0, 0) // none was pushed
	push(t, s, 1, 1)
	acks(t, s, 0, 0, 0) // none was sent
	dues(t, s, 0, 1)
	acks(t, s, 0, 0, 0)
	stands(t, s, 1, 1)
	dues(t, s, 5, 1)
}

func TestAckOfAll(t *testing.T) {
	for _, size := range goodSizes() {
		s := made(t, size, 5, 3*size)
		for i := range 3 {
			if l := due(t, s, i); len(l) != size {
				t.Errorf("size %d: Due: %d", size, l)
			}
			acks(t, s, (i+1)*size, 0, size)
			stands(t, s, (i+1)*size+1, 3*size)
			acks(t, s, (i+1)*size, 0, 0) // twice the same
		}
		dues(t, s, 1000)
	}
}

func TestAckOfSome(t *testing.T) {
	s := made(t, 4, 5, 6)
	dues(t, s, 0, 1, 2, 3, 4)
	acks(t, s, 2, 0, 2)
	acks(t, s, 2, 0, 0)
	acks(t, s, 1, 0, 0) // an elder one
	acks(t, s, 0, 0, 0)
	stands(t, s, 3, 6)
	acks(t, s, 3, 0, 1)
	stands(t, s, 4, 6)
}

func TestAckOfBitsAlone(t *testing.T) {
	s := made(t, 64, 5, 64)
	due(t, s, 0)
	for k := range 63 {
		acks(t, s, 0, 1<<k, 1) // k+2
		acks(t, s, 0, 1<<k, 0)
		stands(t, s, 1, 64)
	}
	dues(t, s, 5, 1)
	acks(t, s, 1, 0, 1)
	stands(t, s, 65, 64)
}

func TestAckOfBitsBehindAll(t *testing.T) {
	for all := range 8 {
		for k := range 8 {
			s := made(t, 16, 5, 16)
			due(t, s, 0)
			acks(t, s, all, 1<<k, all+1)
			stands(t, s, all+1, 16)
			var want []int
			for n := all + 1; n <= 16; n++ {
				if n != all+2+k {
					want = append(want, n)
				}
			}
			dues(t, s, 5, want...)
		}
	}
}

func TestAckOfBitsAndAllThatOverlap(t *testing.T) {
	s := made(t, 8, 5, 8)
	due(t, s, 0)
	acks(t, s, 0, 1<<1|1<<3, 2)      // 3 and 5
	acks(t, s, 1, 1<<0|1<<1|1<<3, 3) // 1, 4 and 6; 3 is named again
	stands(t, s, 2, 8)
	acks(t, s, 4, 1<<0|1<<1, 2) // 2 and 7; 1, 3, 4 and 6 are named again
	stands(t, s, 8, 8)
}

func TestAckTwiceTheSame(t *testing.T) {
	s := made(t, 8, 5, 9)
	due(t, s, 0)
	acks(t, s, 2, 1<<1|1<<4, 4) // 1, 2, 5, 8
	acks(t, s, 2, 1<<1|1<<4, 0)
	stands(t, s, 3, 9)
	dues(t, s, 5, 3, 4, 6, 7, 9)
	acks(t, s, 2, 1<<1|1<<4, 0)
	dues(t, s, 9)
}

func TestAckOfElderBits(t *testing.T) {
	s := made(t, 4, 5, 8)
	due(t, s, 0)
	acks(t, s, 4, 0, 4)
	due(t, s, 0)
	acks(t, s, 0, 1<<0|1<<1|1<<2, 0) // 2 to 4 are acknowledged, and the base is behind them
	acks(t, s, 0, 1<<2|1<<3|1<<6, 2) // 4, 5 and 8
	stands(t, s, 6, 8)
	dues(t, s, 5, 6, 7)
}

func TestAckOfTheLastBit(t *testing.T) {
	s := made(t, 64, 5, 66)
	due(t, s, 0)
	unsent(t, s, 0, 1<<63) // 65 is not sent yet
	acks(t, s, 1, 0, 1)
	dues(t, s, 0, 65)
	unsent(t, s, 1, 1<<63) // 66
	acks(t, s, 0, 1<<63, 1)
	acks(t, s, 0, 1<<63, 0)
	stands(t, s, 2, 66)
	acks(t, s, 64, 0, 63)
	stands(t, s, 66, 66)
	dues(t, s, 0, 66)
	acks(t, s, 1, 1<<63, 1)
	stands(t, s, 67, 66)
}

func TestAckOfBitsFarBehindTheBase(t *testing.T) {
	s := made(t, 64, 5, 300)
	for base := 1; base <= 129; base += 64 {
		due(t, s, 0)
		acks(t, s, base+63, 0, 64)
	}
	due(t, s, 0) // 193 to 256
	for _, all := range []int{0, 1, 64, 127} {
		acks(t, s, all, math.MaxUint64, 0) // up to 192 at most
	}
	stands(t, s, 193, 300)
	dues(t, s, 4)
	acks(t, s, 128, math.MaxUint64, 1) // 130 to 193
	stands(t, s, 194, 300)
	acks(t, s, 191, math.MaxUint64, 63) // 193 to 256
	stands(t, s, 257, 300)
}

func TestAckOfAllBits(t *testing.T) {
	s := made(t, 64, 5, 70)
	due(t, s, 0)
	unsent(t, s, 0, math.MaxUint64)
	acks(t, s, 1, 0, 1)
	dues(t, s, 0, 65)
	acks(t, s, 0, math.MaxUint64, 64)
	stands(t, s, 66, 70)
}

func TestAckOfWhatWasNotSent(t *testing.T) {
	s := made(t, 4, 5, 0)
	unsent(t, s, 1, 0)
	unsent(t, s, 0, 1)
	for n := 1; n <= 6; n++ {
		push(t, s, n, byte(n))
	}
	unsent(t, s, 1, 0) // pushed is not sent
	unsent(t, s, 0, 1)
	dues(t, s, 0, 1, 2, 3, 4)
	wrong := func() {
		t.Helper()
		for _, all := range []int{5, 6, 7, 65536, math.MaxInt - 66, math.MaxInt - 1, math.MaxInt, -1, -2, -66, math.MinInt} {
			for _, more := range []uint64{0, 1, 2, 1 << 62, 1 << 63, math.MaxUint64} {
				unsent(t, s, all, more)
			}
		}
		for all := range 5 {
			for k := 3 - all; k < 64; k++ { // the numbers from 5 on
				if k >= 0 {
					unsent(t, s, all, 1<<k)
					unsent(t, s, all, 1<<k|1)
				}
			}
		}
		unsent(t, s, 4, 1)
	}
	wrong()
	stands(t, s, 1, 6)
	dues(t, s, 4)
	dues(t, s, 5, 1, 2, 3, 4) // none of them was acknowledged
	acks(t, s, 0, 1<<2, 1)
	wrong()
	dues(t, s, 10, 1, 2, 3)
	acks(t, s, 4, 0, 3)
	wrong()
	stands(t, s, 5, 6)
	dues(t, s, 10, 5, 6)
	acks(t, s, 6, 0, 2)
	unsent(t, s, 7, 0)
	unsent(t, s, 5, 1)
	stands(t, s, 7, 6)
}

func TestTheGreatestThatWasSentMayBeAcknowledged(t *testing.T) {
	// 5 to 7 are acknowledged ahead of 4: 7 stays the greatest that was sent.
	s := made(t, 4, 5, 9)
	due(t, s, 0)
	acks(t, s, 3, 0, 3)
	dues(t, s, 0, 5, 6, 7)
	acks(t, s, 3, 7, 3)
	stands(t, s, 4, 9)
	unsent(t, s, 8, 0)
	unsent(t, s, 3, 8)
	acks(t, s, 7, 0, 1)
	stands(t, s, 8, 9)
	unsent(t, s, 8, 0)
}

func TestAnAckThatIsRefusedOfAFreshSender(t *testing.T) {
	for _, all := range []int{1, 2, -1, math.MinInt, math.MaxInt} {
		s := made(t, 4, 5, 2)
		unsent(t, s, all, 0)
		stands(t, s, 1, 2)
		dues(t, s, 0, 1, 2)
	}
}

func void(t *testing.T, s *window.Sender) {
	t.Helper()
	if e := s.Void(); e != api.OK {
		t.Errorf("Void: %d", e)
	}
}

// dueNone asks for what is due, none of which is to have bytes, but those behind a number.
func dueNone(t *testing.T, s *window.Sender, now, void int, want ...int) {
	t.Helper()
	l, e := s.Due(now)
	if e != api.OK || len(l) != len(want) {
		t.Errorf("Due(%d): %v, %d, not %d", now, l, e, want)
		return
	}
	for i, p := range l {
		has := want[i] > void
		if p.N != want[i] || len(p.B) > 0 != has || has && p.B[0] != byte(p.N) {
			t.Errorf("Due(%d): %v", now, p)
		}
	}
}

func TestVoidOfNone(t *testing.T) {
	s := made(t, 2, 5, 0)
	void(t, s)
	stands(t, s, 1, 0)
	push(t, s, 1, 1)
	dueNone(t, s, 0, 0, 1)
	acks(t, s, 1, 0, 1)
	void(t, s) // all are acknowledged
	stands(t, s, 2, 1)
	push(t, s, 2, 2)
	dueNone(t, s, 0, 0, 2)
}

func TestVoidOfSome(t *testing.T) {
	s := made(t, 3, 10, 5)
	dueNone(t, s, 0, 0, 1, 2, 3)
	acks(t, s, 1, 1, 2) // 1 and 3
	dueNone(t, s, 4, 0, 4)
	void(t, s)
	stands(t, s, 2, 5) // the numbers stay
	push(t, s, 6, 6)
	dueNone(t, s, 9, 5) // and when they were sent
	dueNone(t, s, 10, 5, 2)
	dueNone(t, s, 13, 5)
	dueNone(t, s, 14, 5, 4)
	acks(t, s, 4, 0, 2)
	dueNone(t, s, 14, 5, 5, 6)
	dueNone(t, s, 24, 5, 5, 6)
	void(t, s)
	dueNone(t, s, 34, 6, 5, 6)
}

func TestVoidAheadOfTheFirstSending(t *testing.T) {
	s := made(t, 2, 5, 3)
	void(t, s)
	void(t, s)
	unsent(t, s, 1, 0)
	dueNone(t, s, 7, 3, 1, 2)
	acks(t, s, 2, 0, 2)
	dueNone(t, s, 7, 3, 3)
	acks(t, s, 3, 0, 1)
	stands(t, s, 4, 3)
}

func TestVoidDoesNotBringBackWhatIsAcknowledged(t *testing.T) {
	s := made(t, 4, 5, 4)
	due(t, s, 0)
	acks(t, s, 0, 1<<1, 1)
	void(t, s)
	dueNone(t, s, 5, 4, 1, 2, 4)
	acks(t, s, 0, 1<<1, 0)
	acks(t, s, 4, 0, 3)
}
