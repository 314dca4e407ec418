package window

import (
	"bytes"

	"saltern/api"
)

// The most that may lie between two sendings of a payload.
const maxAgain = 1 << 20

// never is when a payload was sent that was not sent yet.
const never = -1

// Sender sends. A Sender that is copied as a value is the same sender.
type Sender struct{ in *sender }

// sender is a Sender's payloads, from its base on.
type sender struct {
	size  int
	again int
	now   int // of the last Due
	base  int
	sent  int // the greatest number of one that was sent
	queue []waiting
}

// waiting is a payload, and when it was sent last. One that is acknowledged waits for those ahead of it alone.
type waiting struct {
	b     []byte
	at    int
	acked bool
}

// NewSender makes one.
func NewSender(size, again int) (*Sender, api.Errno) {
	if !may(size) || again < 1 || again > maxAgain {
		return nil, api.ErrWindow
	}
	return &Sender{&sender{size: size, again: again, base: 1}}, api.OK
}

// Push puts a payload behind the others: its number.
func (s *Sender) Push(b []byte) (int, api.Errno) {
	if !s.made() {
		return 0, api.ErrNil
	}
	if s.in.open() >= api.MaxQueue {
		return 0, api.ErrMany
	}
	s.in.queue = append(s.in.queue, waiting{b: bytes.Clone(b), at: never})
	return s.in.last(), api.OK
}

// Due are those that are to be sent now.
func (s *Sender) Due(now int) ([]api.Payload, api.Errno) {
	if !s.made() {
		return nil, api.ErrNil
	}
	if now < s.in.now || now > api.MaxTime {
		return nil, api.ErrWindow
	}
	s.in.now = now
	return s.in.send(func(w waiting) bool {
		return !w.acked && (w.at == never || now-w.at >= s.in.again)
	}), api.OK
}

// Ack is an acknowledgement: how many were acknowledged by it.
func (s *Sender) Ack(all int, more uint64) (int, api.Errno) {
	if !s.made() {
		return 0, api.ErrNil
	}
	if all < 0 || all > s.in.sent || last(all, more) > s.in.sent {
		return 0, api.ErrAck
	}
	n := s.in.acknowledge(all, more)
	s.in.advance()
	return n, api.OK
}

// Void takes the bytes of all that is not acknowledged.
func (s *Sender) Void() api.Errno {
	if !s.made() {
		return api.ErrNil
	}
	for i := range s.in.queue {
		s.in.queue[i].b = nil
	}
	return api.OK
}

// State is the number of the first that is not acknowledged, and that of the last one.
func (s *Sender) State() (int, int) {
	if !s.made() {
		return 0, 0
	}
	return s.in.base, s.in.last()
}

// made tells whether NewSender made it.
func (s *Sender) made() bool {
	return s != nil && s.in != nil
}

// last is the number of the last payload.
func (s *sender) last() int {
	return s.base + len(s.queue) - 1
}

// window is those in the window. None behind them was sent, so none behind them is acknowledged.
func (s *sender) window() []waiting {
	return s.queue[:min(s.size, len(s.queue))]
}

// open is how many are not acknowledged.
func (s *sender) open() int {
	n := len(s.queue)
	for _, w := range s.window() {
		if w.acked {
			n--
		}
	}
	return n
}

// send sends those in the window that are due.
func (s *sender) send(due func(waiting) bool) []api.Payload {
	var l []api.Payload
	w := s.window()
	for i := range w {
		if !due(w[i]) {
			continue
		}
		w[i].at = s.now
		n := s.base + i
		s.sent = max(s.sent, n)
		l = append(l, api.Payload{N: n, B: bytes.Clone(w[i].b)})
	}
	return l
}

// acknowledge is how many of the window an acknowledgement is the first to tell of.
func (s *sender) acknowledge(all int, more uint64) int {
	n := 0
	w := s.window()
	for i := range w {
		told := s.base+i <= all || more&bit(all, s.base+i) != 0
		if told && !w[i].acked {
			w[i] = waiting{acked: true}
			n++
		}
	}
	return n
}

// advance moves the base behind those that are acknowledged.
func (s *sender) advance() {
	for len(s.queue) > 0 && s.queue[0].acked {
		s.queue = s.queue[1:]
		s.base++
	}
}
