package check_test

import (
	"bytes"
	"slices"
	"strings"
	"testing"

	"saltern/api"
	"saltern/check"
)

// zeros is a digest of them, as a text.
var zeros = strings.Repeat("00", 32)

// taken tells whether bytes are parsed, and holds that they are what Bytes tells then, and what the chapter's words tell.
func taken(t *testing.T, b []byte) bool {
	t.Helper()
	was := bytes.Clone(b)
	m, e := check.Parse(b)
	if !bytes.Equal(b, was) {
		t.Errorf("%x was changed", was)
	}
	if m == (api.Mark{}) && e == api.ErrMark {
		return false
	}
	again, errno := check.Bytes(m)
	if e != api.OK || errno != api.OK || !bytes.Equal(again, b) || !wordedMay(m) || !bytes.Equal(wordedBytes(m), b) {
		t.Errorf("%x: %v, %d; again %x, %d", b, m, e, again, errno)
	}
	return true
}

// isNone asks that bytes are no mark's.
func isNone(t *testing.T, what string, b []byte) {
	t.Helper()
	if taken(t, b) {
		t.Errorf("%s: %x is taken", what, b)
	}
}

// some are marks at few edges.
func some() []api.Mark {
	var l []api.Mark
	for _, h := range []api.Head{{}, {Seq: 1, Epoch: 1}, {Seq: 300, Epoch: 2, Chain: api.Digest{4, 31: 200}}, {Seq: 1 << 30, Epoch: 1 << 30, Chain: api.Digest{255}}} {
		l = append(l, wordedMark(keyOf(9), 0, h), wordedMark(keyOf(9), 1, h), api.Mark{Site: 1, Head: h})
	}
	return l
}

// P16.1: cut off at each place.
func TestParseOfEachBeginning(t *testing.T) {
	isNone(t, "nil", nil)
	isNone(t, "empty", []byte{})
	for _, m := range some() {
		b := wordedBytes(m)
		for n := range b {
			isNone(t, "a beginning", b[:n])
		}
		for n := 1; n < len(b); n++ {
			isNone(t, "an end", b[n:])
		}
	}
}

// P16.1: too long, by one byte of each value, and by many.
func TestParseOfMoreBytes(t *testing.T) {
	for _, m := range some() {
		b := wordedBytes(m)
		for x := range 256 {
			isNone(t, "a byte more", append(bytes.Clone(b), byte(x)))
			isNone(t, "a byte ahead", append([]byte{byte(x)}, b...))
		}
		isNone(t, "twice", slices.Concat(b, b))
		isNone(t, "many more", append(bytes.Clone(b), make([]byte, 1000)...))
	}
	if m, e := check.Parse(make([]byte, 1<<22)); m != (api.Mark{}) || e != api.ErrMark {
		t.Errorf("very many: %v, %d", m, e)
	}
}

// P16.1: another first byte, and another site.
func TestParseOfOthersBytes(t *testing.T) {
	for _, m := range some() {
		b := wordedBytes(m)
		for x := range 256 {
			b[0], b[1] = byte(x), byte(m.Site)
			if taken(t, b) != (x == 'M') {
				t.Errorf("first byte %d", x)
			}
			b[0], b[1] = 'M', byte(x)
			if taken(t, b) != (x < 2) {
				t.Errorf("site %d", x)
			}
		}
	}
}

// P16.1: numbers of another form, and heads that may not be.
func TestParseOfNumbers(t *testing.T) {
	for _, c := range []struct{ what, numbers string }{
		{"Seq 1 of another form", "8100 01"},
		{"Seq 1 of a longer form", "818000 01"},
		{"Seq 0 of another form", "8000 00"},
		{"Seq 128 of another form", "808100 01"},
		{"Epoch 1 of another form", "01 8100"},
		{"Epoch 0 of another form", "00 8000"},
		{"Epoch 300 of another form", "01 ac8200"},
		{"Seq 2^30 and 1", "8180808004 01"},
		{"Seq 2^32 and 1", "8180808010 01"},
		{"Seq 2^63 and 1", "81808080808080808001 01"},
		{"Seq 2^64 less 1", "ffffffffffffffffff01 01"},
		{"Seq 2^64 and 1", "81808080808080808002 01"},
		{"Seq without an end", "ffffffffffffffffffffff 01"},
		{"Epoch 2^30 and 1", "01 8180808004"},
		{"Epoch 2^32 and 1", "01 8180808010"},
		{"Epoch 2^64 less 1", "01 ffffffffffffffffff01"},
		{"Epoch 0 beside a Seq", "01 00"},
		{"Epoch 0 beside the greatest Seq", "8080808004 00"},
		{"Seq 0 beside an Epoch", "00 01"},
		{"Seq 0 beside the greatest Epoch", "00 8080808004"},
		{"no Epoch", "01"},
		{"no numbers", ""},
	} {
		for _, chain := range []string{zeros, "05" + zeros[2:], zeros[2:] + "05", strings.Repeat("7f", 32)} {
			for _, site := range []string{"00", "01"} {
				isNone(t, c.what, raw(t, "4d"+site+c.numbers+chain+zeros))
				isNone(t, c.what, raw(t, "4d"+site+c.numbers+chain+strings.Repeat("01", 32)))
			}
		}
	}
	for _, chain := range []string{"05" + zeros[2:], zeros[2:] + "05", strings.Repeat("00", 15) + "80" + strings.Repeat("00", 16)} {
		isNone(t, "a Chain beside Seq 0", raw(t, "4d 00 00 00"+chain+zeros))
	}
	for _, numbers := range []string{"00 00", "01 01", "8080808004 8080808004", "01 8080808004", "8080808004 01", "ac02 7f"} {
		if !taken(t, raw(t, "4d 01"+numbers+zeros+zeros)) {
			t.Errorf("%s are not taken", numbers)
		}
	}
}

// P16.7: what is not what Bytes tells is not parsed: each bit turned, each byte at each place, taken out, put in.
func TestParseOfChangedBytes(t *testing.T) {
	got := map[bool]int{}
	for _, m := range some() {
		b := wordedBytes(m)
		for bit := range 8 * len(b) {
			b[bit/8] ^= 1 << (bit % 8)
			got[taken(t, b)]++
			b[bit/8] ^= 1 << (bit % 8)
		}
		for i := range b {
			was := b[i]
			for x := range 256 {
				b[i] = byte(x)
				got[taken(t, b)]++
				taken(t, slices.Insert(bytes.Clone(b), i, byte(x)))
			}
			b[i] = was
			taken(t, slices.Delete(bytes.Clone(b), i, i+1))
		}
		if !taken(t, b) {
			t.Errorf("%x is not taken", b)
		}
	}
	if got[true] < 100 || got[false] < 100 {
		t.Errorf("%v", got)
	}
}

// P16.7: bytes that begin like a mark's, with anything behind.
func TestParseOfAnything(t *testing.T) {
	c := chance(2)
	got := map[bool]int{}
	for range 50000 {
		b := []byte{'M', byte(c.below(3))}
		for range 1 + c.below(3) {
			b = append(b, byte(c.below(3)|c.below(2)<<7))
		}
		d := c.digest()
		b = append(b, d[:c.below(2)]...)
		b = append(b, make([]byte, 62+c.below(4))...)
		got[taken(t, b)]++
	}
	if got[true] < 100 || got[false] < 100 {
		t.Errorf("%v", got)
	}
}
