package frame_test

import (
	"bytes"
	"crypto/hmac"
	"crypto/sha256"
	"encoding/binary"
	"encoding/hex"
	"math"
	"strings"
	"testing"

	"saltern/api"
)

// greatest is that of the numbers of 8 bytes.
const greatest = math.MaxUint64

// chance is numbers without a pattern, always the same ones.
type chance uint64

func (c *chance) below(n int) int {
	*c = *c*6364136223846793005 + 1442695040888963407
	return int(uint64(*c)>>33) % n
}

// number is one of any length, up to a power of 2.
func (c *chance) number(bits int) int {
	return c.below(1<<c.below(bits+1) + 1)
}

// long is a number of 8 bytes, of any length.
func (c *chance) long() uint64 {
	return uint64(c.below(1<<31))<<33 ^ uint64(c.below(1<<31))<<11>>c.below(64)
}

func (c *chance) bytes(n int) []byte {
	b := make([]byte, n)
	for i := range b {
		b[i] = byte(c.below(256))
	}
	return b
}

// frame is one that may be.
func (c *chance) frame() api.Frame {
	f := api.Frame{From: c.below(2), Epoch: c.number(30), Me: c.long() | 1, You: c.long(), N: c.number(30), All: c.number(30), More: c.long()}
	if f.N > 0 {
		f.Body = c.bytes(c.below(300))
	}
	return f
}

// row is n bytes, none of them 0.
func row(n int) []byte {
	b := make([]byte, n)
	for i := range b {
		b[i] = byte(1 + i%255)
	}
	return b
}

// keys are of no bytes, of a few, of as many as a key's block has, one fewer and more, and of many.
func keys() [][]byte {
	return [][]byte{nil, {}, row(1), row(3), row(32), row(63), row(64), row(65), row(1000)}
}

// wordedMay is the chapter's 'a frame may be', read once more.
func wordedMay(f api.Frame) bool {
	if f.N == 0 && len(f.Body) != 0 {
		return false
	}
	for _, n := range []int{f.Epoch, f.N, f.All} {
		if n < 0 || n > 1<<30 {
			return false
		}
	}
	return (f.From == 0 || f.From == 1) && f.Me > 0 && len(f.Body) <= 1<<19
}

// wordedBody are its body's bytes, whether it may be or not.
func wordedBody(f api.Frame) []byte {
	b := []byte{'F', byte(f.From)}
	b = binary.AppendUvarint(b, uint64(f.Epoch))
	b = binary.BigEndian.AppendUint64(b, f.Me)
	b = binary.BigEndian.AppendUint64(b, f.You)
	b = binary.AppendUvarint(b, uint64(f.N))
	b = binary.AppendUvarint(b, uint64(f.All))
	b = binary.BigEndian.AppendUint64(b, f.More)
	b = binary.AppendUvarint(b, uint64(len(f.Body)))
	return append(b, f.Body...)
}

func macOf(key, b []byte) []byte {
	m := hmac.New(sha256.New, key)
	m.Write(b)
	return m.Sum(nil)
}

// closed is any bytes, and the MAC of them behind, for what a site sends.
func closed(key []byte, from int, b []byte) []byte {
	derived := macOf(key, binary.BigEndian.AppendUint64([]byte("frame\x00"), uint64(from)))
	return append(bytes.Clone(b), macOf(derived, b)...)
}

// wordedBytes are a frame's, whether it may be or not.
func wordedBytes(key []byte, f api.Frame) []byte {
	return closed(key, f.From, wordedBody(f))
}

// wordedOpen reads a frame in any form, and holds what its bytes would be against these.
func wordedOpen(key, b []byte) (api.Frame, api.Errno) {
	if len(b) < 2+32 {
		return api.Frame{}, api.ErrFrame
	}
	body := b[:len(b)-32]
	left := body[2:]
	number := func() int {
		x, n := binary.Uvarint(left)
		left = left[max(n, 0):]
		return int(x)
	}
	long := func() (x uint64) {
		if len(left) >= 8 {
			x, left = binary.BigEndian.Uint64(left), left[8:]
		}
		return x
	}
	f := api.Frame{From: int(body[1])}
	f.Epoch, f.Me, f.You, f.N, f.All, f.More = number(), long(), long(), number(), number(), long()
	number()
	f.Body = left
	if !wordedMay(f) || !bytes.Equal(wordedBody(f), body) {
		return api.Frame{}, api.ErrFrame
	}
	if !bytes.Equal(wordedBytes(key, f), b) {
		return api.Frame{}, api.ErrMac
	}
	return f, api.OK
}

// alike holds two frames against each other by their parts.
func alike(f, g api.Frame) bool {
	if len(f.Body) != len(g.Body) {
		return false
	}
	for i := range f.Body {
		if f.Body[i] != g.Body[i] {
			return false
		}
	}
	return [4]int{f.From, f.Epoch, f.N, f.All} == [4]int{g.From, g.Epoch, g.N, g.All} &&
		[3]uint64{f.Me, f.You, f.More} == [3]uint64{g.Me, g.You, g.More}
}

// goodFrames are those that may be, at each edge.
func goodFrames() []api.Frame {
	var l []api.Frame
	for from := range 2 {
		l = append(l, api.Frame{From: from, Me: 1}, api.Frame{From: from, Epoch: 1, Me: 7})
		for _, n := range []int{0, 1, 2, 127, 128, 300, 16383, 16384, 1<<30 - 1, 1 << 30} {
			l = append(l, api.Frame{From: from, Epoch: n, Me: 1}, api.Frame{From: from, N: n, Me: 1}, api.Frame{From: from, All: n, Me: 1}, api.Frame{From: from, Epoch: n, N: n, All: n, Me: 1})
		}
		for _, x := range []uint64{1, 2, 255, 256, 0x0102030405060708, 1 << 63, greatest - 1, greatest} {
			l = append(l, api.Frame{From: from, Me: x}, api.Frame{From: from, Me: 1, You: x}, api.Frame{From: from, Me: 1, More: x}, api.Frame{From: from, Me: x, You: x, More: x})
		}
		for _, n := range []int{0, 1, 2, 127, 128, 129, 16383, 16384, 1<<19 - 1, 1 << 19} {
			l = append(l, api.Frame{From: from, Me: 1, N: 1, Body: row(n)}, api.Frame{From: from, Epoch: 1 << 30, Me: greatest, You: greatest, N: 1 << 30, Body: make([]byte, n), All: 1 << 30, More: greatest})
		}
		l = append(l, api.Frame{From: from, Me: 1, Body: []byte{}}, api.Frame{From: from, Me: 1, N: 5, Body: []byte("FFFF")})
	}
	return l
}

// fewFrames are some of them, of few bytes.
func fewFrames() []api.Frame {
	return []api.Frame{
		{Epoch: 1, Me: 7},
		{From: 1, Me: 1 << 63, You: 3, All: 300, More: 1 << 40},
		{From: 1, Epoch: 300, Me: 7, You: 9, N: 4, Body: []byte("body"), All: 3, More: 5},
		{Epoch: 1 << 30, Me: greatest, You: greatest, N: 1 << 30, Body: row(130), All: 1 << 30, More: greatest},
	}
}

// wrongNumbers are below and above what Epoch, N and All may be.
func wrongNumbers() []int {
	return []int{math.MinInt, math.MinInt + 1, -1 << 32, -1 << 30, -2, -1, 1<<30 + 1, 1 << 31, 1 << 32, 1<<32 + 1, math.MaxInt}
}

// badFrames are those that may not be, each for one reason.
func badFrames() []api.Frame {
	var l []api.Frame
	for _, f := range fewFrames() {
		for _, n := range []int{math.MinInt, -256, -255, -2, -1, 2, 3, 255, 256, 257, 1 << 32, math.MaxInt} {
			l = append(l, with(f, func(f *api.Frame) { f.From = n }))
		}
		for _, n := range wrongNumbers() {
			l = append(l, with(f, func(f *api.Frame) { f.Epoch = n }), with(f, func(f *api.Frame) { f.N = n }), with(f, func(f *api.Frame) { f.All = n }))
		}
		l = append(l, with(f, func(f *api.Frame) { f.Me = 0 }))
		for _, n := range []int{1, 2, 1 << 19} {
			l = append(l, with(f, func(f *api.Frame) { f.N, f.Body = 0, make([]byte, n) }))
		}
		for _, n := range []int{1<<19 + 1, 1 << 20} {
			l = append(l, with(f, func(f *api.Frame) { f.N, f.Body = 1, make([]byte, n) }))
		}
	}
	return append(l, api.Frame{}, api.Frame{Epoch: 1}, api.Frame{From: 2, Me: 1})
}

// with is a frame with something changed in it.
func with(f api.Frame, by func(f *api.Frame)) api.Frame {
	by(&f)
	return f
}

// raw are the bytes of a text of hexadecimal digits.
func raw(t *testing.T, s string) []byte {
	t.Helper()
	b, err := hex.DecodeString(strings.ReplaceAll(s, " ", ""))
	if err != nil {
		t.Fatal(err)
	}
	return b
}
