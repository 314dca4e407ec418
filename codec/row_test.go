package codec_test

import (
	"bytes"
	"slices"
	"testing"

	"saltern/api"
	"saltern/codec"
	"saltern/lz"
)

// P7.3

func TestEncodeThatWasReckonedByHand(t *testing.T) {
	for _, c := range []struct {
		row  string
		want string
	}{
		{"", "0000"},
		{"\x00", "000100"},
		{"ab", "00026162"},
		{"abcabcabcd", "000a 61626361626361626364"},
		// a 0, a copy of 99 bytes 1, its distance 0.
		{string(bytes.Repeat([]byte("a"), 100)), "0164  0061 0101 00fd01 0101 009f01  0101 000c  02  40"},
	} {
		if b, e := codec.Encode([]byte(c.row)); !bytes.Equal(b, raw(t, c.want)) || e != api.OK {
			t.Errorf("Encode(%q): %x, %d, not %s", c.row, b, e, c.want)
		}
	}
	if b, e := codec.Encode(nil); !bytes.Equal(b, []byte{0, 0}) || e != api.OK {
		t.Errorf("Encode(nil): %x, %d", b, e)
	}
}

func TestEncodeByTheWords(t *testing.T) {
	forms := map[byte]int{}
	for _, row := range manyRows() {
		stored, packed := wordedCode(0, row), wordedCode(1, row)
		want := stored
		if len(packed) < len(stored) {
			want = packed
		}
		if b, e := codec.Encode(row); !bytes.Equal(b, want) || e != api.OK {
			t.Errorf("%d bytes, %.20x: %.40x, %d, not %.40x", len(row), row, b, e, want)
		}
		forms[want[0]]++
	}
	if forms[0] < 20 || forms[1] < 20 {
		t.Errorf("stored, packed: %v", forms)
	}
}

func TestEncodeOfARowThatPackedIsAsLong(t *testing.T) {
	// However many bytes a there are, they are packed alike: so the row's bytes come to be as many, and more.
	found := map[int]int{}
	for n := range 60 {
		for tail := range 30 {
			row := slices.Concat(bytes.Repeat([]byte("a"), n), []byte("bcdefghijklmnopqrstuvwxyz01234")[:tail])
			stored, packed := wordedCode(0, row), wordedCode(1, row)
			b, e := codec.Encode(row)
			if over := len(packed) - len(stored); over >= -1 && over <= 1 {
				found[over]++
			}
			if e != api.OK || len(packed) >= len(stored) && !bytes.Equal(b, stored) || len(packed) < len(stored) && !bytes.Equal(b, packed) {
				t.Errorf("%q: %x, %d; stored %d bytes, packed %d", row, b, e, len(stored), len(packed))
			}
		}
	}
	if found[-1] < 5 || found[0] < 5 || found[1] < 5 {
		t.Errorf("too few of them: %v", found)
	}
}

func TestEncodeOfTooMany(t *testing.T) {
	for _, fill := range [][]byte{{0}, {1, 2, 3}} {
		row := bytes.Repeat(fill, 65537)
		if b, e := codec.Encode(row[:65536]); len(b) == 0 || b[0] != 1 || e != api.OK {
			t.Errorf("as many as may be: %d bytes, %d", len(b), e)
		}
		for _, n := range []int{65537, min(len(row), 100000)} {
			if b, e := codec.Encode(row[:n]); len(b) != 0 || e != api.ErrLong {
				t.Errorf("%d: %d bytes, %d", n, len(b), e)
			}
		}
	}
	c := chance(75)
	row := c.row(65536, 256)
	if b, e := codec.Encode(row); !bytes.Equal(b, append([]byte{0, 0x80, 0x80, 4}, row...)) || e != api.OK {
		t.Errorf("as many as may be, stored: %d bytes, %d", len(b), e)
	}
}

// P7.4

func TestDecodeTakesEachForm(t *testing.T) {
	for _, row := range manyRows() {
		for form := range byte(2) {
			if x, e := codec.Decode(wordedCode(form, row)); !bytes.Equal(x, row) || e != api.OK {
				t.Errorf("%d bytes, %.20x, form %d: %d bytes, %d", len(row), row, form, len(x), e)
			}
		}
	}
}

func TestDecodeTakesOtherTokensThanTheLongest(t *testing.T) {
	for _, l := range [][]api.Token{
		lits("aaaaaaaaaa"),
		join(lits("aaaaa"), []api.Token{back(5, 4)}),
		join(lits("abcd"), []api.Token{back(4, 4), back(8, 8), back(4, 4)}),
	} {
		row, _, _ := lz.Bytes(l...)
		b := slices.Concat([]byte{1}, varint(len(row)), wordedPack(l))
		if x, e := codec.Decode(b); !bytes.Equal(x, row) || e != api.OK {
			t.Errorf("%v: %q, %d", l, x, e)
		}
	}
}

func TestDecodeRefuses(t *testing.T) {
	for _, c := range []struct{ what, b string }{
		{"an empty code", ""},
		{"a first byte alone, stored", "00"},
		{"a first byte alone, packed", "01"},
		{"a first byte of 2", "0200"},
		{"a first byte of 2 ahead of a row", "020161"},
		{"a first byte of 255", "ff00"},
		{"fewer bytes than the head says", "000361"},
		{"none of the bytes that the head says", "0001"},
		{"more bytes than the head says", "00016161"},
		{"a byte behind no bytes", "000000"},
		{"a head that ends within its varint", "0080"},
		{"a head of another form", "008000"},
		{"a head of 1 of another form", "00810061"},
		{"a head beyond a row", "00818004"},
		{"a head of 2^64 - 1", "00ffffffffffffffffff01"},
		{"a head beyond a varint", "00ffffffffffffffffff02"},
		{"a packed head of 2^63", "0180808080808080808001 00ff03 000d 00"},
		{"packed without tokens", "0100"},
		{"packed, another form", "0100 00ff03 000d 8000"},
		{"packed, a byte behind", "0100 00ff03 000d 00 00"},
		{"packed, other bits", "0101 0061 0101 009d03  000d  01  80"},
		{"packed, the end within the bits", "0109 0061 0101 009d03  000d  09  00"},
		{"packed, no bytes and a head of 1", "0101 00ff03 000d 00"},
		{"packed, a byte and a head of 0", "0100 0061 0101 009d03  000d  01  00"},
		{"packed, a byte and a head of 2", "0102 0061 0101 009d03  000d  01  00"},
		{"packed, a copy of what is not there", "0104 008002 0101 00fe01  0101 000c  01  00"},
		{"packed, the same and a head of 0", "0100 008002 0101 00fe01  0101 000c  01  00"},
	} {
		refusesRow(t, c.what, raw(t, c.b), api.ErrCode)
	}
}

func TestDecodeRefusesAnotherHead(t *testing.T) {
	for _, row := range [][]byte{[]byte("abc"), bytes.Repeat([]byte("abc"), 100), make([]byte, 65536)} {
		for form := range byte(2) {
			behind := wordedCode(form, row)[1+len(varint(len(row))):]
			for _, n := range []int{0, len(row) - 1, len(row) + 1, len(row) + 128, 65536, 65537} {
				if n != len(row) {
					refusesRow(t, "another head", slices.Concat([]byte{form}, varint(n), behind), api.ErrCode)
				}
			}
			other := slices.Concat([]byte{1 - form}, varint(len(row)), behind)
			refusesRow(t, "the other form", other, api.ErrCode)
		}
	}
}

func TestDecodeRefusesWhatBytesRefuses(t *testing.T) {
	for _, l := range [][]api.Token{
		{back(1, 4)},
		{lit(1), back(2, 4)},
		{lit(1), back(1, 4), back(4096, 4)},
	} {
		size, _ := lz.Size(l...)
		b := slices.Concat([]byte{1}, varint(size), wordedPack(l))
		if m, e := codec.Unpack(b[1+len(varint(size)):]); !slices.Equal(m, l) || e != api.OK {
			t.Errorf("%v: Unpack: %v, %d", l, m, e)
		}
		refusesRow(t, "a copy of what is not there", b, api.ErrCode)
	}
}

func TestDecodeOfTooMany(t *testing.T) {
	row := bytes.Repeat([]byte{7}, 65537)
	if x, e := codec.Decode(wordedCode(0, row[:65536])); !bytes.Equal(x, row[:65536]) || e != api.OK {
		t.Errorf("as many as may be: %d, %d", len(x), e)
	}
	refusesRow(t, "a byte more than a row", wordedCode(0, row), api.ErrCode)
	refusesRow(t, "a byte more, packed", slices.Concat([]byte{1}, varint(65537), wordedPack(repeat(lit(7), 65537))), api.ErrCode)
	for _, first := range []string{"", "\x00", "\x00\x03abc", "\x01\x00", "\x02"} {
		for _, c := range []struct {
			n    int
			want api.Errno
		}{{1 << 18, api.ErrCode}, {1<<18 + 1, api.ErrLong}, {1 << 20, api.ErrLong}} {
			b := make([]byte, c.n)
			copy(b, first)
			refusesRow(t, first, b, c.want)
		}
	}
}

func TestDecodeOfEachBeginningAndEachBit(t *testing.T) {
	for _, row := range [][]byte{nil, []byte("abc"), bytes.Repeat([]byte("a"), 100), bytes.Repeat([]byte("abcabd"), 50)} {
		for form := range byte(2) {
			b := wordedCode(form, row)
			for n := range b {
				refusesRow(t, "a beginning", b[:n], api.ErrCode)
			}
			refusesRow(t, "a byte behind", append(bytes.Clone(b), 0), api.ErrCode)
			for i := range 8 * len(b) {
				b[i/8] ^= 1 << (i % 8)
				holdsHead(t, b)
				b[i/8] ^= 1 << (i % 8)
			}
		}
	}
}

// holdsHead holds that what Decode takes is as long as Head says, and that it is that row's code.
func holdsHead(t *testing.T, b []byte) {
	t.Helper()
	x, e := codec.Decode(b)
	n, packed, errno := codec.Head(b)
	if e != api.OK {
		if e != api.ErrCode || len(x) != 0 {
			t.Errorf("Decode(%.40x): %d bytes, %d", b, len(x), e)
		}
		return
	}
	if errno != api.OK || n != len(x) || packed != (b[0] == 1) {
		t.Errorf("%.40x: %d bytes; Head: %d, %v, %d", b, len(x), n, packed, errno)
	}
	if !packed && !bytes.Equal(b, wordedCode(0, x)) {
		t.Errorf("%.40x: %d bytes, that are not stored so", b, len(x))
	}
}

func TestHead(t *testing.T) {
	for _, c := range []struct {
		b      string
		n      int
		packed bool
		want   api.Errno
	}{
		{"0000", 0, false, api.OK},
		{"0100", 0, true, api.OK},
		{"0001", 1, false, api.OK},
		{"017f", 127, true, api.OK},
		{"018001", 128, true, api.OK},
		{"00808004", 65536, false, api.OK},
		{"01808004", 65536, true, api.OK},
		{"00ffff03", 65535, false, api.OK},
		{"0003 61", 3, false, api.OK}, // what is behind plays no part
		{"0005 ffffffffffffffff", 5, false, api.OK},
		{"01808004 ff", 65536, true, api.OK},
		{"00818004", 0, false, api.ErrCode},
		{"01818004", 0, false, api.ErrCode},
		{"0080808004", 0, false, api.ErrCode},
		{"00ffffffffffffffffff01", 0, false, api.ErrCode},
		{"0180808080808080808001", 0, false, api.ErrCode},
		{"0080808080808080808002", 0, false, api.ErrCode},
		{"", 0, false, api.ErrCode},
		{"00", 0, false, api.ErrCode},
		{"01", 0, false, api.ErrCode},
		{"0080", 0, false, api.ErrCode},
		{"01ff83", 0, false, api.ErrCode},
		{"008000", 0, false, api.ErrCode},
		{"01808400", 0, false, api.ErrCode},
		{"0200", 0, false, api.ErrCode},
		{"0305", 0, false, api.ErrCode},
		{"8000", 0, false, api.ErrCode},
		{"ff00", 0, false, api.ErrCode},
	} {
		if n, packed, e := codec.Head(raw(t, c.b)); n != c.n || packed != c.packed || e != c.want {
			t.Errorf("Head(%s): %d, %v, %d, not %d, %v, %d", c.b, n, packed, e, c.n, c.packed, c.want)
		}
	}
}

func TestHeadOfEncode(t *testing.T) {
	for _, row := range manyRows() {
		b, _ := codec.Encode(row)
		if n, packed, e := codec.Head(b); n != len(row) || packed != (b[0] == 1) || e != api.OK {
			t.Errorf("%d bytes: %d, %v, %d", len(row), n, packed, e)
		}
	}
	// Head has no bound of its own.
	if n, packed, e := codec.Head(append([]byte{1, 9}, make([]byte, 1<<18)...)); n != 9 || !packed || e != api.OK {
		t.Errorf("%d, %v, %d", n, packed, e)
	}
}

func TestHeadOfAllShortOnes(t *testing.T) {
	for form := range 256 {
		for x := range 256 {
			n, packed, e := codec.Head([]byte{byte(form), byte(x)})
			if form < 2 && x < 128 {
				if n != x || packed != (form == 1) || e != api.OK {
					t.Errorf("%d, %d: %d, %v, %d", form, x, n, packed, e)
				}
			} else if n != 0 || packed || e != api.ErrCode {
				t.Errorf("%d, %d: %d, %v, %d", form, x, n, packed, e)
			}
		}
	}
}
