package window_test

import (
	"bytes"

	"saltern/api"
)

// wordedSender is the chapter's sender, read once more: it lets go of nothing, and looks all over again in each call.
type wordedSender struct {
	size  int
	again int
	nows  []int
	all   []wordedPayload
}

type wordedPayload struct {
	b     []byte
	acked bool
	sent  []int // when
}

func (s *wordedSender) base() int {
	n := 1
	for n <= len(s.all) && s.all[n-1].acked {
		n++
	}
	return n
}

func (s *wordedSender) isDue(n, now int) bool {
	p := s.all[n-1]
	if n < s.base() || n >= s.base()+s.size || p.acked {
		return false
	}
	return len(p.sent) == 0 || p.sent[len(p.sent)-1] <= now-s.again
}

func (s *wordedSender) greatestSent() int {
	for n := len(s.all); n > 0; n-- {
		if len(s.all[n-1].sent) > 0 {
			return n
		}
	}
	return 0
}

func (s *wordedSender) Push(b []byte) (int, api.Errno) {
	open := 0
	for _, p := range s.all {
		if !p.acked {
			open++
		}
	}
	if open >= 65536 {
		return 0, api.ErrMany
	}
	s.all = append(s.all, wordedPayload{b: bytes.Clone(b)})
	return len(s.all), api.OK
}

func (s *wordedSender) Due(now int) ([]api.Payload, api.Errno) {
	if now < 0 || now > 1<<40 {
		return nil, api.ErrWindow
	}
	for _, x := range s.nows {
		if now < x {
			return nil, api.ErrWindow
		}
	}
	s.nows = append(s.nows, now)
	var l []api.Payload
	for n := 1; n <= len(s.all); n++ {
		if s.isDue(n, now) {
			l = append(l, api.Payload{N: n, B: s.all[n-1].b})
		}
	}
	for _, p := range l {
		s.all[p.N-1].sent = append(s.all[p.N-1].sent, now)
	}
	return l, api.OK
}

func (s *wordedSender) Ack(all int, more uint64) (int, api.Errno) {
	if all < 0 || all > s.greatestSent() {
		return 0, api.ErrAck
	}
	var named []int
	for n := 1; n <= all; n++ {
		named = append(named, n)
	}
	for k := range 64 {
		if more/(1<<k)%2 == 0 {
			continue
		}
		if all+2+k > s.greatestSent() {
			return 0, api.ErrAck
		}
		named = append(named, all+2+k)
	}
	count := 0
	for _, n := range named {
		if !s.all[n-1].acked {
			count++
		}
		s.all[n-1].acked = true
	}
	return count, api.OK
}

func (s *wordedSender) Void() api.Errno {
	for i := range s.all {
		if !s.all[i].acked {
			s.all[i].b = nil
		}
	}
	return api.OK
}

func (s *wordedSender) State() (int, int) { return s.base(), len(s.all) }

// wordedTaker is the chapter's taker, read once more: it remembers all that was ever there.
type wordedTaker struct {
	size   int
	there  []api.Payload
	handed int
}

// find is the payload of a number, if it is there.
func (t *wordedTaker) find(n int) *api.Payload {
	for i := range t.there {
		if t.there[i].N == n {
			return &t.there[i]
		}
	}
	return nil
}

func (t *wordedTaker) Take(p api.Payload) ([]api.Payload, api.Errno) {
	waits := t.handed + 1
	if p.N < 1 || waits <= p.N-t.size {
		return nil, api.ErrAhead
	}
	if p.N < waits || t.find(p.N) != nil {
		return nil, api.OK
	}
	t.there = append(t.there, api.Payload{N: p.N, B: bytes.Clone(p.B)})
	var l []api.Payload
	for t.find(t.handed+1) != nil {
		t.handed++
		l = append(l, *t.find(t.handed))
	}
	return l, api.OK
}

func (t *wordedTaker) Acks() (int, uint64) {
	var more, worth uint64 = 0, 1
	for k := range 64 {
		if t.find(t.handed+2+k) != nil {
			more += worth
		}
		worth *= 2
	}
	return t.handed, more
}

func (t *wordedTaker) Void() api.Errno {
	for i := range t.there {
		if t.there[i].N > t.handed {
			t.there[i].B = nil
		}
	}
	return api.OK
}
