package frame_test

import (
	"bytes"
	"crypto/sha256"
	"encoding/binary"
	"slices"
	"testing"

	"saltern/api"
	"saltern/frame"
)

// opens asks for Open of any bytes: it is what the chapter's words tell, and, if it is a frame, Seal tells just these bytes.
func opens(t *testing.T, key, b []byte) api.Errno {
	t.Helper()
	was, wasKey := bytes.Clone(b), bytes.Clone(key)
	f, e := frame.Open(key, b)
	if want, errno := wordedOpen(key, b); !alike(f, want) || e != errno {
		t.Errorf("Open of %d bytes, %x: %s, %d, not %s, %d", len(b), b[:min(len(b), 100)], short(f), e, short(want), errno)
	}
	if e == api.OK {
		if again, e := frame.Seal(key, f); !bytes.Equal(again, b) || e != api.OK {
			t.Errorf("%d bytes are opened, of which Seal tells %d others, %d", len(b), len(again), e)
		}
	} else if f.Body != nil {
		t.Errorf("%d bytes of a body beside error %d", len(f.Body), e)
	}
	if !bytes.Equal(b, was) || !bytes.Equal(key, wasKey) {
		t.Errorf("an argument changed")
	}
	return e
}

// is asks for Open's error.
func is(t *testing.T, what string, key, b []byte, want api.Errno) {
	t.Helper()
	if e := opens(t, key, b); e != want {
		t.Errorf("%s: %d, not %d", what, e, want)
	}
}

// isNone asks that bytes are no body's of a frame, whatever stands behind them: the MAC of either site, another one, none.
func isNone(t *testing.T, what string, b []byte) {
	t.Helper()
	key := []byte("key")
	is(t, what, key, closed(key, 0, b), api.ErrFrame)
	is(t, what, key, closed(key, 1, b), api.ErrFrame)
	if len(b) > 1 {
		is(t, what, key, closed(key, int(b[1]), b), api.ErrFrame)
	}
	is(t, what, key, append(bytes.Clone(b), make([]byte, 32)...), api.ErrFrame)
}

// P18.2: no bytes, each beginning and each end of a frame's, of the body's with a MAC of its own, too.
func TestOpenOfEachBeginning(t *testing.T) {
	key := []byte("key")
	is(t, "nil", key, nil, api.ErrFrame)
	is(t, "empty", key, []byte{}, api.ErrFrame)
	isNone(t, "no body", nil)
	for _, f := range fewFrames() {
		body, b := wordedBody(f), wordedBytes(key, f)
		for n := range b {
			is(t, "a beginning", key, b[:n], api.ErrFrame)
			is(t, "an end", key, b[n+1:], api.ErrFrame)
		}
		for n := range body {
			isNone(t, "a beginning", body[:n])
			isNone(t, "an end", body[n+1:])
		}
	}
}

// P18.2: too long, by one byte of each value, and by many.
func TestOpenOfMoreBytes(t *testing.T) {
	key := []byte("key")
	for _, f := range fewFrames() {
		body, b := wordedBody(f), wordedBytes(key, f)
		for x := range 256 {
			is(t, "a byte more", key, append(bytes.Clone(b), byte(x)), api.ErrFrame)
			is(t, "a byte ahead", key, append([]byte{byte(x)}, b...), api.ErrFrame)
			isNone(t, "a byte more of the body", append(bytes.Clone(body), byte(x)))
			isNone(t, "a byte ahead of the body", append([]byte{byte(x)}, body...))
		}
		is(t, "twice", key, slices.Concat(b, b), api.ErrFrame)
		isNone(t, "the body twice", slices.Concat(body, body))
		isNone(t, "the frame sealed once more", b)
		is(t, "many more", key, append(bytes.Clone(b), make([]byte, 1000)...), api.ErrFrame)
	}
	is(t, "very many", key, make([]byte, 1<<22), api.ErrFrame)
	is(t, "very many", key, bytes.Repeat([]byte{'F'}, 1<<22), api.ErrFrame)
}

// P18.2: another first byte, and another site.
func TestOpenOfOthersBytes(t *testing.T) {
	key := []byte("key")
	for _, f := range fewFrames() {
		for x := range 256 {
			body := wordedBody(f)
			body[0] = byte(x)
			if want := closed(key, f.From, body); x == 'F' {
				is(t, "the first byte", key, want, api.OK)
			} else {
				is(t, "another first byte", key, want, api.ErrFrame)
			}
			body = wordedBody(f)
			if body[1] = byte(x); x < 2 {
				is(t, "a site", key, closed(key, x, body), api.OK)
				is(t, "the other one's key", key, closed(key, 1-x, body), api.ErrMac)
			} else {
				isNone(t, "no site", body)
			}
		}
	}
}

// P18.2: numbers that may not be, or of another form than Bytes writes; and lengths of the body that are wrong.
func TestOpenOfNumbers(t *testing.T) {
	const (
		me   = "0000000000000007"
		none = "0000000000000000"
	)
	forms := []struct{ what, number string }{
		{"0 of another form", "8000"},
		{"1 of another form", "8100"},
		{"1 of a longer form", "818000"},
		{"300 of another form", "ac8200"},
		{"2^30 of another form", "808080808400"},
		{"2^30 and 1", "8180808004"},
		{"2^31", "8080808008"},
		{"2^32 and 1", "8180808010"},
		{"2^63 and 1", "81808080808080808001"},
		{"2^64 less 1", "ffffffffffffffffff01"},
		{"2^64 and 1", "81808080808080808002"},
		{"without an end", "ffffffffffffffffffffff"},
		{"none", ""},
	}
	for _, c := range forms {
		for _, site := range []string{"46 00", "46 01"} {
			isNone(t, "Epoch "+c.what, raw(t, site+c.number+me+none+"00 00"+none+"00"))
			isNone(t, "N "+c.what, raw(t, site+"01"+me+none+c.number+"00"+none+"00"))
			isNone(t, "N "+c.what+", a body", raw(t, site+"01"+me+none+c.number+"00"+none+"01 61"))
			isNone(t, "All "+c.what, raw(t, site+"01"+me+none+"00"+c.number+none+"00"))
			isNone(t, "length "+c.what, raw(t, site+"01"+me+none+"01 00"+none+c.number))
			isNone(t, "length "+c.what+", a body", raw(t, site+"01"+me+none+"01 00"+none+c.number+"61"))
			isNone(t, "length "+c.what+", a body of 300", append(raw(t, site+"01"+me+none+"01 00"+none+c.number), row(300)...))
		}
	}
	isNone(t, "Me 0", raw(t, "46 00 01"+none+me+"00 00"+none+"00"))
	isNone(t, "N 0 beside a body", raw(t, "46 00 01"+me+none+"00 00"+none+"01 61"))
	isNone(t, "N 0 beside a body of zeros", raw(t, "46 00 01"+me+none+"00 00"+none+"02 0000"))
	isNone(t, "no N", raw(t, "46 00 01"+me+none+"00"+none+"00"))
}

// P18.2: a length that is not the body's, of each length up to a bound.
func TestOpenOfLengths(t *testing.T) {
	key := []byte("key")
	for _, size := range []int{0, 1, 2, 127, 128, 200} {
		head := wordedBody(api.Frame{Epoch: 3, Me: 7, N: 1})
		head = head[:len(head)-1]
		for said := range 400 {
			body := append(binary.AppendUvarint(bytes.Clone(head), uint64(said)), row(size)...)
			if said == size {
				is(t, "the length", key, closed(key, 0, body), api.OK)
			} else {
				isNone(t, "another length", body)
			}
		}
	}
}

// P18.2: all frames that may not be, and yet have bytes.
func TestOpenOfFramesThatMayNotBe(t *testing.T) {
	for _, f := range badFrames() {
		if f.From < 0 || f.From > 255 {
			continue
		}
		isNone(t, "may not be", wordedBody(f))
	}
}

// P18.2: the longest body, and one byte more.
func TestOpenOfLongBodies(t *testing.T) {
	key := []byte("key")
	for _, from := range []int{0, 1} {
		f := api.Frame{From: from, Epoch: 1 << 30, Me: greatest, N: 1, Body: row(1 << 19)}
		b := wordedBytes(key, f)
		is(t, "the longest", key, b, api.OK)
		b[len(b)-1] ^= 1
		is(t, "the longest, another MAC", key, b, api.ErrMac)
		f.Body = row(1<<19 + 1)
		isNone(t, "one byte more", wordedBody(f))
	}
}

// P18.2, P18.5: where the MAC's bytes are others: in each bit, each byte at each place, all of them.
func TestOpenWithAnotherMac(t *testing.T) {
	key := []byte("key")
	c := chance(3)
	for _, f := range append(fewFrames(), goodFrames()...) {
		b := wordedBytes(key, f)
		bits := 256
		if len(b) > 1000 {
			bits = 3
		}
		last := b[len(b)-32:]
		for bit := range bits {
			last[bit/8] ^= 1 << (bit % 8)
			is(t, "one bit", key, b, api.ErrMac)
			last[bit/8] ^= 1 << (bit % 8)
		}
		for range min(bits, 20) {
			i, x := c.below(32), byte(1+c.below(255))
			last[i] ^= x
			is(t, "one byte", key, b, api.ErrMac)
			last[i] ^= x
		}
		copy(last, c.bytes(32))
		is(t, "others", key, b, api.ErrMac)
		clear(last)
		is(t, "zeros", key, b, api.ErrMac)
	}
}

// P18.2: under another key nothing is opened; keys that seal alike (P4.5) are one.
func TestOpenWithAnotherKey(t *testing.T) {
	for _, f := range fewFrames() {
		b := wordedBytes(row(20), f)
		for bit := range 160 {
			key := row(20)
			key[bit/8] ^= 1 << (bit % 8)
			is(t, "one bit of the key", key, b, api.ErrMac)
		}
		for _, key := range append(keys(), row(19), row(21), []byte("yek")) {
			is(t, "another key", key, b, api.ErrMac)
		}
		is(t, "zeros behind the key", append(row(20), 0, 0), b, api.OK)
		long := wordedBytes(row(1000), f)
		d := sha256.Sum256(row(1000))
		is(t, "a long key's digest", d[:], long, api.OK)
		is(t, "a long key's beginning", row(1000)[:64], long, api.ErrMac)
	}
}

// P18.2: it is the key of the purpose and the site that seals, not another one.
func TestOpenWithAnotherPurpose(t *testing.T) {
	key := []byte("key")
	for _, f := range fewFrames() {
		body := wordedBody(f)
		for _, purpose := range []string{"", "fram", "frames", "Frame", "FRAME", "mark", "F", "frame\x00"} {
			k := macOf(key, binary.BigEndian.AppendUint64(append([]byte(purpose), 0), uint64(f.From)))
			is(t, purpose, key, append(bytes.Clone(body), macOf(k, body)...), api.ErrMac)
		}
		for _, n := range []int{1 - f.From, 2, -1, f.From + 256, 'F'} {
			is(t, "another site's", key, closed(key, n, body), api.ErrMac)
		}
		is(t, "the key itself", key, append(bytes.Clone(body), macOf(key, body)...), api.ErrMac)
		is(t, "of all but the first byte", key, append(bytes.Clone(body), closed(key, f.From, body[1:])[len(body)-1:]...), api.ErrMac)
		is(t, "the digest", key, append(bytes.Clone(body), closed(key, f.From, nil)...), api.ErrMac)
	}
}

// P18.2: where the body's bytes are a frame's no more, that is told ahead of the MAC.
func TestOpenTellsOfTheBytesFirst(t *testing.T) {
	key := []byte("key")
	for _, f := range fewFrames() {
		b := wordedBytes(key, f)
		b[len(b)-1] ^= 1
		is(t, "the MAC alone", key, b, api.ErrMac)
		b[0] = 'R'
		is(t, "both", key, b, api.ErrFrame)
		is(t, "both, another key", nil, b, api.ErrFrame)
	}
}

// P18.4: what is not what Seal tells is not opened: each bit turned, each byte at each place, taken out, put in; under the old MAC, and under one of their own.
func TestOpenOfChangedBytes(t *testing.T) {
	key := []byte("key")
	got := map[api.Errno]int{}
	try := func(body, last []byte) {
		got[opens(t, key, append(bytes.Clone(body), last...))]++
		if len(body) > 1 {
			got[opens(t, key, closed(key, int(body[1]), body))]++
		}
	}
	for _, f := range fewFrames() {
		body := wordedBody(f)
		last := wordedBytes(key, f)[len(body):]
		for bit := range 8 * len(body) {
			other := bytes.Clone(body)
			other[bit/8] ^= 1 << (bit % 8)
			try(other, last)
			if e := opens(t, key, append(other, last...)); e == api.OK {
				t.Errorf("opened with bit %d turned under the old MAC", bit)
			}
		}
		for i := range min(len(body), 50) {
			for x := range 256 {
				other := bytes.Clone(body)
				other[i] = byte(x)
				try(other, last)
				try(slices.Insert(bytes.Clone(body), i, byte(x)), last)
			}
			try(slices.Delete(bytes.Clone(body), i, i+1), last)
		}
	}
	if got[api.OK] < 1000 || got[api.ErrMac] < 1000 || got[api.ErrFrame] < 1000 {
		t.Errorf("%v", got)
	}
}

// P18.4: bytes that begin like a frame's, with anything behind.
func TestOpenOfAnything(t *testing.T) {
	key := []byte("key")
	c := chance(4)
	got := map[api.Errno]int{}
	some := func() []byte {
		var b []byte
		for range c.below(2) {
			b = append(b, 0x80|byte(c.below(2)))
		}
		return append(b, byte(c.below(3)))
	}
	for range 20000 {
		body := slices.Concat([]byte{'F', byte(c.below(3))}, some(), c.bytes(15+c.below(20)/19), []byte{byte(c.below(2))}, some(), some(), c.bytes(8), some(), c.bytes(c.below(3)))
		got[opens(t, key, closed(key, c.below(2), body))]++
	}
	if got[api.OK] < 100 || got[api.ErrMac] < 100 || got[api.ErrFrame] < 100 {
		t.Errorf("%v", got)
	}
}
