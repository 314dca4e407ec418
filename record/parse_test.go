package record_test

import (
	"bytes"
	"encoding/binary"
	"slices"
	"strings"
	"testing"

	"saltern/api"
	"saltern/record"
)

// parses asks that bytes are just a record's.
func parses(t *testing.T, what string, b []byte, want api.Record) {
	t.Helper()
	was := bytes.Clone(b)
	if r, e := record.Parse(b); !alike(r, want) || e != api.OK {
		t.Errorf("%s: %d bytes: %s, %d, not %s", what, len(b), short(r), e, short(want))
	}
	if !bytes.Equal(b, was) {
		t.Errorf("%s: the argument changed", what)
	}
}

// refuses asks for an error, and nothing beside it.
func refuses(t *testing.T, what string, b []byte, want api.Errno) {
	t.Helper()
	was := bytes.Clone(b)
	if r, e := record.Parse(b); !isZero(r) || e != want {
		t.Errorf("%s: %d bytes, %.60x: %s, %d, not %d", what, len(b), b, short(r), e, want)
	}
	if !bytes.Equal(b, was) {
		t.Errorf("%s: the argument changed", what)
	}
}

// taken tells whether bytes are parsed, and holds that they are what Bytes tells then.
func taken(t *testing.T, b []byte) bool {
	t.Helper()
	r, e := record.Parse(b)
	if e == api.ErrRecord && isZero(r) {
		return false
	}
	if again, errno := record.Bytes(r); e != api.OK || errno != api.OK || !bytes.Equal(again, b) {
		t.Errorf("%.60x: %s, %d; again %.60x, %d", b, short(r), e, again, errno)
	}
	if !wordedMay(r) || !bytes.Equal(wordedBytes(r), b) {
		t.Errorf("%.60x: %s, whose bytes they are not", b, short(r))
	}
	return true
}

// P13.2, P13.5: at each edge.
func TestParseOfBytes(t *testing.T) {
	for _, c := range good() {
		b, e := record.Bytes(c.r)
		if e != api.OK {
			t.Errorf("%s: %d", c.what, e)
		}
		parses(t, c.what, b, c.r)
		parses(t, c.what, wordedBytes(c.r), c.r)
		if len(b) > api.MaxRecord {
			t.Errorf("%s: %d bytes are more than may be", c.what, len(b))
		}
	}
}

// P13.5
func TestParseOfBytesOfAnyRecords(t *testing.T) {
	c := chance(4)
	for range 3000 {
		r := c.record()
		b, e := record.Bytes(r)
		if e != api.OK {
			t.Fatalf("%s: %d", short(r), e)
		}
		parses(t, "any record", b, r)
	}
}

// P13.2: bytes of a record that may not be.
func TestParseOfRecordsThatMayNotBe(t *testing.T) {
	zeros := strings.Repeat("00", 32)
	for _, c := range []struct{ what, b string }{
		{"kind 0", "52 00 01 01" + zeros + "00"},
		{"kind 0 and no more", "52 00 01 01" + zeros},
		{"kind 4", "52 04 01 01" + zeros + "00"},
		{"kind 4 and no more", "52 04 01 01" + zeros},
		{"kind 4 with a path", "52 04 01 01" + zeros + "01 61"},
		{"kind 255", "52 ff 01 01" + zeros + "00"},
		{"kind 129", "52 81 01 01" + zeros + "00"},
		{"another first byte", "53 01 01 01" + zeros + "00"},
		{"a small first byte", "72 01 01 01" + zeros + "00"},
		{"no first byte", "01 01 01" + zeros + "00"},
		{"Seq 0", "52 01 00 01" + zeros + "00"},
		{"Seq 2^30 and 1", "52 01 8180808004 01" + zeros + "00"},
		{"Seq 2^32 and 1", "52 01 8180808010 01" + zeros + "00"},
		{"Seq 2^63 and 1", "52 01 81808080808080808001 01" + zeros + "00"},
		{"Seq 2^64 less 1", "52 01 ffffffffffffffffff01 01" + zeros + "00"},
		{"Seq 2^64 and more", "52 01 81808080808080808002 01" + zeros + "00"},
		{"Epoch 0", "52 01 01 00" + zeros + "00"},
		{"Epoch 2^30 and 1", "52 01 01 8180808004" + zeros + "00"},
		{"Epoch 2^32 and 1", "52 01 01 8180808010" + zeros + "00"},
		{"Epoch 2^64 less 1", "52 01 01 ffffffffffffffffff01" + zeros + "00"},
		{"site 2", "52 01 01 01" + zeros + "02"},
		{"site 128", "52 01 01 01" + zeros + "80"},
		{"site 255", "52 01 01 01" + zeros + "ff"},
		{"site 1 in two bytes", "52 01 01 01" + zeros + "8100"},
		{"no path of RPut", "52 02 01 01" + zeros + "00 00"},
		{"no path of RDelete", "52 03 01 01" + zeros + "00"},
		{"a path of byte 32", "52 03 01 01" + zeros + "01 20"},
		{"a path of byte 127", "52 03 01 01" + zeros + "01 7f"},
		{"a path of byte 0", "52 02 01 01" + zeros + "01 00 00"},
		{"a path with byte 255", "52 02 01 01" + zeros + "02 61ff 00"},
		{"a longer path than is there", "52 03 01 01" + zeros + "02 61"},
		{"a shorter path than is there", "52 03 01 01" + zeros + "01 6161"},
		{"RDelete with no pieces told", "52 03 01 01" + zeros + "01 61 00"},
		{"RDelete with a piece", "52 03 01 01" + zeros + "01 61 01 05" + zeros},
		{"RPut with none told", "52 02 01 01" + zeros + "01 61"},
		{"a piece of 0 bytes", "52 02 01 01" + zeros + "01 61 01 00" + zeros},
		{"a piece of 4097 bytes", "52 02 01 01" + zeros + "01 61 01 8120" + zeros},
		{"a piece of 2^64 less 1 bytes", "52 02 01 01" + zeros + "01 61 01 ffffffffffffffffff01" + zeros},
		{"fewer pieces than are there", "52 02 01 01" + zeros + "01 61 00 05" + zeros},
		{"more pieces than are there", "52 02 01 01" + zeros + "01 61 02 05" + zeros},
		{"far more pieces than are there", "52 02 01 01" + zeros + "01 61 8020 05" + zeros},
		{"4097 pieces told", "52 02 01 01" + zeros + "01 61 8120 05" + zeros},
		{"2^64 less 1 pieces told", "52 02 01 01" + zeros + "01 61 ffffffffffffffffff01 05" + zeros},
		{"Seq of another form", "52 01 8100 01" + zeros + "00"},
		{"Seq of a longer form", "52 01 818000 01" + zeros + "00"},
		{"Seq 0 of another form", "52 01 8000 01" + zeros + "00"},
		{"Epoch of another form", "52 01 01 8100" + zeros + "00"},
		{"how many pieces of another form", "52 02 01 01" + zeros + "01 61 8100 05" + zeros},
		{"no pieces of another form", "52 02 01 01" + zeros + "01 61 8000"},
		{"a piece's bytes of another form", "52 02 01 01" + zeros + "01 61 01 8500" + zeros},
	} {
		refuses(t, c.what, raw(t, c.b), api.ErrRecord)
	}
}

// P13.2: the records that may not be, as bytes, where a byte can tell it.
func TestParseOfTheBytesOfBadRecords(t *testing.T) {
	for _, c := range bad() {
		b := wordedBytes(c.r)
		// What stands in no byte, or is cut there, is another record's.
		if r, e := record.Parse(b); e == api.OK && (!wordedMay(r) || !bytes.Equal(wordedBytes(r), b) || alike(r, c.r)) {
			t.Errorf("%s: %s", c.what, short(r))
		}
	}
	for _, l := range [][]api.Piece{many(4097, 1), many(4097, 256), append(many(256, 4096), sized(1)...), append(many(4095, 256), sized(257)...), many(4096, 4096)} {
		refuses(t, "too many", wordedBytes(put("a", l...)), api.ErrRecord)
	}
}

// P13.2: the end, at each place.
func TestParseOfEachBeginning(t *testing.T) {
	for _, c := range good() {
		b := wordedBytes(c.r)
		for n := range b {
			// Of a long row all places near its ends, and some between.
			if n < 400 || n > len(b)-40 || n%997 == 0 {
				refuses(t, c.what, b[:n], api.ErrRecord)
			}
		}
	}
	refuses(t, "nil", nil, api.ErrRecord)
	refuses(t, "empty", []byte{}, api.ErrRecord)
}

// P13.2: one byte more, whichever it is, and more of them.
func TestParseOfMoreBytes(t *testing.T) {
	for _, c := range good() {
		b := wordedBytes(c.r)
		for x := range 256 {
			if len(b) < 1000 || x%51 == 0 {
				refuses(t, c.what, append(bytes.Clone(b), byte(x)), api.ErrRecord)
			}
		}
		refuses(t, c.what, append([]byte{0}, b...), api.ErrRecord)
		if len(b) < 1000 {
			refuses(t, c.what, slices.Concat(b, b), api.ErrRecord)
		}
	}
}

// P13.2: as many bytes as may be, and one more; the record of the most bytes has fewer.
func TestParseOfTheMostBytes(t *testing.T) {
	whole := wordedBytes(lead(0))
	for _, c := range []struct {
		n    int
		want api.Errno
	}{{1<<18 - 1, api.ErrRecord}, {1 << 18, api.ErrRecord}, {1<<18 + 1, api.ErrLong}, {1 << 20, api.ErrLong}} {
		refuses(t, "zeros", make([]byte, c.n), c.want)
		refuses(t, "all bits", bytes.Repeat([]byte{255}, c.n), c.want)
		refuses(t, "a record with zeros behind", append(bytes.Clone(whole), make([]byte, c.n-len(whole))...), c.want)
		// Ever more pieces of one byte, as if there could be so many.
		b := wordedBytes(put("a"))
		b = binary.AppendUvarint(b[:len(b)-1], uint64(c.n))
		for len(b) < c.n {
			b = append(b, 1)
			b = append(b, make([]byte, min(32, c.n-len(b)))...)
		}
		refuses(t, "pieces", b, c.want)
	}
}

// P13.5: where a bit is turned, it is no record's, or just another one's.
func TestEachBitTurned(t *testing.T) {
	got := map[bool]int{}
	for _, c := range good() {
		b := wordedBytes(c.r)
		step := 1
		if len(b) > 1000 { // where there are thousands of pieces, some bits of the first ones are enough
			step = 13
		}
		for bit := 0; bit < 8*min(len(b), 500); bit += step {
			b[bit/8] ^= 1 << (bit % 8)
			got[taken(t, b)]++
			b[bit/8] ^= 1 << (bit % 8)
		}
	}
	if got[true] < 100 || got[false] < 100 {
		t.Errorf("%v", got)
	}
}

// P13.5: each byte at each place, and taken out, and doubled.
func TestEachByteAtEachPlace(t *testing.T) {
	for _, r := range []api.Record{lead(1), put("ab", sized(200, 7)...), del("ab"), changed(del("a"), func(r *api.Record) { r.Seq, r.Epoch = 300, 1<<30 })} {
		b := wordedBytes(r)
		for i := range b {
			was := b[i]
			for x := range 256 {
				b[i] = byte(x)
				taken(t, b)
				taken(t, slices.Insert(bytes.Clone(b), i, byte(x)))
			}
			b[i] = was
			taken(t, slices.Delete(bytes.Clone(b), i, i+1))
		}
		parses(t, "as it was", b, r)
	}
}

// P13.5: bytes that begin like a record's, with anything behind.
func TestParseOfAnything(t *testing.T) {
	c := chance(5)
	got := map[bool]int{}
	for range 60000 {
		b := []byte{'R', byte(c.below(5)), byte(c.below(4)), byte(c.below(4))}
		b = append(b, make([]byte, 32)...)
		n := c.below(6)
		b = append(b, byte(n))
		for range c.below(7) {
			b = append(b, byte(33+c.below(95)))
		}
		for range c.below(3) {
			b = append(b, byte(c.below(3)), byte(c.below(130)))
			b = append(b, make([]byte, 30+c.below(4))...)
		}
		got[taken(t, b)]++
	}
	if got[true] < 100 || got[false] < 100 {
		t.Errorf("%v", got)
	}
}

// Rule 4: a record that is told shares nothing with its bytes, nor with another one.
func TestParsedRecordsAreNew(t *testing.T) {
	want := put("abc", sized(1, 2, 3)...)
	b := wordedBytes(want)
	first, _ := record.Parse(b)
	second, _ := record.Parse(b)
	for i := range b {
		b[i] ^= 255
	}
	if !alike(first, want) || !alike(second, want) {
		t.Errorf("%s, %s share the bytes", short(first), short(second))
	}
	first.Pieces[1] = api.Piece{}
	if !alike(second, want) {
		t.Error("two answers share pieces")
	}
}
