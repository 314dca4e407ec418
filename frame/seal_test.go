package frame_test

import (
	"bytes"
	"encoding/hex"
	"strings"
	"testing"

	"saltern/api"
	"saltern/frame"
)

// seals asks of a frame that may be for Check and Seal, and for Open of what Seal tells.
func seals(t *testing.T, key []byte, f api.Frame) {
	t.Helper()
	was, wasKey := with(f, func(f *api.Frame) { f.Body = bytes.Clone(f.Body) }), bytes.Clone(key)
	if e := frame.Check(f); e != api.OK {
		t.Errorf("Check of %s: %d", short(f), e)
	}
	b, e := frame.Seal(key, f)
	if want := wordedBytes(key, f); !bytes.Equal(b, want) || e != api.OK {
		t.Fatalf("Seal of %s with %d bytes: %d bytes, %d, not %d bytes", short(f), len(key), len(b), e, len(want))
	}
	g, e := frame.Open(key, b)
	if !alike(f, g) || e != api.OK {
		t.Errorf("Open of Seal of %s: %s, %d", short(f), short(g), e)
	}
	if !alike(f, was) || !bytes.Equal(key, wasKey) {
		t.Errorf("%s: an argument changed", short(was))
	}
}

// short is the beginning of a frame's bytes, as a text.
func short(f api.Frame) string {
	b := wordedBody(f)
	return hex.EncodeToString(b[:min(len(b), 60)])
}

// P18.1, P18.4: frames at each edge, of both sites.
func TestSeal(t *testing.T) {
	for _, f := range goodFrames() {
		seals(t, []byte("key"), f)
	}
}

// P18.1, P18.4: keys of all lengths.
func TestSealWithKeys(t *testing.T) {
	for _, key := range keys() {
		for _, f := range fewFrames() {
			seals(t, key, f)
		}
	}
}

// P18.1, P18.4: any frames.
func TestSealOfAnyFrames(t *testing.T) {
	c := chance(1)
	for range 3000 {
		seals(t, c.bytes(c.below(100)), c.frame())
	}
}

// P18.1: three frames, reckoned elsewhere.
func TestTheBytesOfThreeFrames(t *testing.T) {
	for _, c := range []struct {
		key  string
		f    api.Frame
		want string
	}{
		{"key", api.Frame{Epoch: 1, Me: 7},
			"46 00 01 0000000000000007 0000000000000000 00 00 0000000000000000 00" +
				"3b1d4ddb1810ec60915e2889fb8b316e8de6ebc67c23bfb17636e53d74e4ff77"},
		{"", api.Frame{From: 1, Epoch: 300, Me: 0x0102030405060708, You: 9, N: 4, Body: []byte("body"), All: 3, More: 1<<63 | 5},
			"46 01 ac02 0102030405060708 0000000000000009 04 03 8000000000000005 04 626f6479" +
				"8451ffe0d691c90030493717424d46aa682fbdd73e44bba45980f66fd193a943"},
		{strings.Repeat("k", 100), api.Frame{From: 1, Epoch: 1 << 30, Me: greatest, You: greatest, N: 1 << 30, Body: bytes.Repeat([]byte("x"), 130), All: 1 << 30, More: greatest},
			"46 01 8080808004 ffffffffffffffff ffffffffffffffff 8080808004 8080808004 ffffffffffffffff 8201" + strings.Repeat("78", 130) +
				"97d70284ab80ff2fdad7d57f30a0c312c3560b141662de6c28e6b9fbfbcc0cbb"},
	} {
		if b, e := frame.Seal([]byte(c.key), c.f); !bytes.Equal(b, raw(t, c.want)) || e != api.OK {
			t.Errorf("%x, %d, not %s", b, e, c.want)
		}
		if f, e := frame.Open([]byte(c.key), raw(t, c.want)); !alike(f, c.f) || e != api.OK {
			t.Errorf("%v, %d, not %v", f, e, c.f)
		}
	}
}

// P18.1: the chapter's example.
func TestTheExample(t *testing.T) {
	for _, key := range keys() {
		b, e := frame.Seal(key, api.Frame{From: 0, Epoch: 1, Me: 7})
		if len(b) != 1+1+1+16+2+8+1+32 || e != api.OK {
			t.Errorf("%d bytes, %d", len(b), e)
		}
	}
}

// P18.1: frames that may not be, each for one reason, and for two.
func TestFramesThatMayNotBe(t *testing.T) {
	refused := func(f api.Frame) {
		t.Helper()
		if e := frame.Check(f); e != api.ErrFrame {
			t.Errorf("Check of %s: %d", short(f), e)
		}
		for _, key := range [][]byte{nil, []byte("key"), row(100)} {
			if b, e := frame.Seal(key, f); b != nil || e != api.ErrFrame {
				t.Errorf("Seal of %s: %d bytes, %d", short(f), len(b), e)
			}
		}
	}
	l := badFrames()
	for i, f := range l {
		refused(f)
		g := l[(i*7+3)%len(l)]
		refused(with(f, func(f *api.Frame) { f.From, f.Me = g.From, 0 }))
		refused(with(f, func(f *api.Frame) { f.All, f.Epoch = -1, 1<<30+1 }))
	}
}

// P18.1: each field counts, each bit of it, each byte of the body.
func TestSame(t *testing.T) {
	c := chance(2)
	l := append(fewFrames(), api.Frame{}, api.Frame{From: -3, Epoch: -4, N: -5, All: -6})
	for range 200 {
		l = append(l, c.frame())
	}
	for _, f := range l {
		same(t, f, with(f, func(f *api.Frame) { f.Body = bytes.Clone(f.Body) }))
		for _, g := range parted(f) {
			differ(t, f, g)
		}
		for _, g := range l {
			if frame.Same(f, g) != alike(f, g) {
				t.Errorf("Same of %v and %v", f, g)
			}
		}
	}
}

// parted are a frame with one thing changed in each.
func parted(f api.Frame) []api.Frame {
	var l []api.Frame
	for bit := range 64 {
		l = append(l,
			with(f, func(f *api.Frame) { f.From ^= 1 << bit }),
			with(f, func(f *api.Frame) { f.Epoch ^= 1 << bit }),
			with(f, func(f *api.Frame) { f.Me ^= 1 << bit }),
			with(f, func(f *api.Frame) { f.You ^= 1 << bit }),
			with(f, func(f *api.Frame) { f.N ^= 1 << bit }),
			with(f, func(f *api.Frame) { f.All ^= 1 << bit }),
			with(f, func(f *api.Frame) { f.More ^= 1 << bit }))
	}
	for i := range f.Body {
		g := with(f, func(f *api.Frame) { f.Body = bytes.Clone(f.Body) })
		g.Body[i] ^= 1 << (i % 8)
		l = append(l, g, with(f, func(f *api.Frame) { f.Body = f.Body[:i] }))
	}
	return append(l, with(f, func(f *api.Frame) { f.Body = append(bytes.Clone(f.Body), 0) }))
}

// P18.1: nil and empty are alike, of frames that may not be, too.
func TestSameOfNilAndEmpty(t *testing.T) {
	for _, f := range []api.Frame{{}, {Me: 1}, {From: 5, Epoch: -1}, {Me: 1, N: 3}} {
		same(t, f, with(f, func(f *api.Frame) { f.Body = []byte{} }))
		same(t, f, with(f, func(f *api.Frame) { f.Body = row(5)[:0] }))
	}
	for _, key := range keys() {
		f := api.Frame{From: 1, Me: 1, N: 3}
		first, _ := frame.Seal(key, f)
		second, _ := frame.Seal(key, with(f, func(f *api.Frame) { f.Body = []byte{} }))
		if !bytes.Equal(first, second) || !bytes.Equal(first, wordedBytes(key, f)) {
			t.Error("nil and empty seal in two ways")
		}
	}
}

func same(t *testing.T, f, g api.Frame) {
	t.Helper()
	if !frame.Same(f, g) || !frame.Same(g, f) {
		t.Errorf("%v and %v differ", f, g)
	}
}

func differ(t *testing.T, f, g api.Frame) {
	t.Helper()
	if frame.Same(f, g) || frame.Same(g, f) {
		t.Errorf("%v and %v are the same", f, g)
	}
}

// Rule 4: what Seal and Open tell is new memory.
func TestAnswersAreNewMemory(t *testing.T) {
	key := row(20)
	for _, f := range fewFrames() {
		first, _ := frame.Seal(key, f)
		second, _ := frame.Seal(key, f)
		clear(first[:cap(first)])
		if !bytes.Equal(second, wordedBytes(key, f)) {
			t.Error("two answers of Seal share memory")
		}
		g, _ := frame.Open(key, second)
		h, _ := frame.Open(key, second)
		clear(g.Body[:cap(g.Body)])
		if !bytes.Equal(second, wordedBytes(key, f)) {
			t.Error("an answer of Open shares memory with its argument")
		}
		clear(second[:cap(second)])
		if !alike(f, h) {
			t.Error("two answers of Open share memory, or one with its argument")
		}
	}
}
