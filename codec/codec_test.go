package codec_test

import (
	"bytes"
	"slices"
	"testing"

	"saltern/api"
	"saltern/codec"
	"saltern/huff"
	"saltern/lz"
)

// P7.1

// byHand are tokens and what they are packed, reckoned by hand.
var byHand = []struct {
	l    []api.Token
	want string
}{
	{nil, "00ff03 000d 00"},
	{[]api.Token{lit('a')}, "0061 0101 009d03  000d  01  00"},
	{[]api.Token{lit(0)}, "0101 00fe03  000d  01  00"},
	{[]api.Token{lit(255)}, "00ff01 0101 00ff01  000d  01  00"},
	{repeat(lit('a'), 8), "0061 0101 009d03  000d  08  00"},
	{repeat(lit('a'), 9), "0061 0101 009d03  000d  09  0000"},
	{[]api.Token{back(1, 4)}, "008002 0101 00fe01  0101 000c  01  00"},
	{[]api.Token{back(4096, 258)}, "00fe03 0101  000c 0101  01  0000"},
	{[]api.Token{back(4095, 258)}, "00fe03 0101  000b 0101 0001  01  3ff8"},
	{[]api.Token{back(5, 4)}, "008002 0101 00fe01  0002 0101 000a  01  10"},
	// The codes are 10, 11 and 0; those of distances are 0 and 1.
	{[]api.Token{lit(7), back(1, 9), back(4096, 258)}, "0007 0201 00fd01 0201 00f801 0101  0101 000b 0101  03  b20000"},
	// c 00, d 01, the copy 10, a 110, b 111; 3 is a lone code and a bit of 1.
	{join(lits("abc"), []api.Token{back(3, 6)}, lits("d")), "0061 0302 0202 009d01 0201 00fc01  0001 0101 000b  05  dc94"},
}

func TestPackThatWasReckonedByHand(t *testing.T) {
	for _, c := range byHand {
		if b, e := codec.Pack(c.l...); !bytes.Equal(b, raw(t, c.want)) || e != api.OK {
			t.Errorf("Pack(%v): %x, %d, not %s", c.l, b, e, c.want)
		}
	}
}

func TestPackByTheWords(t *testing.T) {
	for _, l := range manyTokens() {
		if b, e := codec.Pack(l...); !bytes.Equal(b, wordedPack(l)) || e != api.OK {
			t.Errorf("%d tokens, %.60v: %d bytes, %d, not %d bytes", len(l), l, len(b), e, len(wordedPack(l)))
		}
	}
}

func TestPackOfATreeThatIsTooDeep(t *testing.T) {
	l := lits(string(tallRow()))
	counts, _ := wordedCounts(l)
	lengths, _ := huff.Lengths(counts...)
	if n := len(slices.DeleteFunc(slices.Clone(counts), func(c int) bool { return c == 0 })); n < 18 {
		t.Fatalf("%d symbols are no deep tree", n)
	}
	if slices.Max(lengths) > 15 {
		t.Fatalf("lengths up to %d", slices.Max(lengths))
	}
	b, e := codec.Pack(l...)
	if e != api.OK || !bytes.HasPrefix(b, wordedLengths(lengths)) {
		t.Errorf("%.80x, %d", b, e)
	}
	if m, e := codec.Unpack(b); !slices.Equal(m, l) || e != api.OK {
		t.Errorf("%d tokens, %d", len(m), e)
	}
}

func TestPackRefuses(t *testing.T) {
	for _, c := range []struct {
		l    []api.Token
		want api.Errno
	}{
		{[]api.Token{{}}, api.ErrToken},
		{[]api.Token{{Len: 2}}, api.ErrToken},
		{[]api.Token{back(1, 3)}, api.ErrToken},
		{[]api.Token{back(1, 259)}, api.ErrToken},
		{[]api.Token{back(-1, 4)}, api.ErrToken},
		{[]api.Token{back(4097, 4)}, api.ErrToken},
		{[]api.Token{back(5000, 4)}, api.ErrToken},
		{[]api.Token{{Dist: 1, Len: 4, Lit: 1}}, api.ErrToken},
		{[]api.Token{lit(1), lit(2), back(1, 3), lit(4)}, api.ErrToken},
		{repeat(lit(1), 65537), api.ErrLong},
		{repeat(back(1, 257), 256), api.ErrLong},
		{join(repeat(back(1, 256), 256), lits("a")), api.ErrLong},
		{join(repeat(lit(1), 65537), []api.Token{{}}), api.ErrToken}, // named first
	} {
		if b, e := codec.Pack(c.l...); len(b) != 0 || e != c.want {
			t.Errorf("%d tokens: %x, %d, not %d", len(c.l), b, e, c.want)
		}
		if _, e := lz.Size(c.l...); e != c.want {
			t.Errorf("%d tokens: Size: %d, not %d", len(c.l), e, c.want)
		}
	}
}

func TestPackOfACopyOfWhatIsNotThere(t *testing.T) {
	l := []api.Token{back(4096, 258), lit(1), back(300, 4)}
	b, e := codec.Pack(l...)
	if e != api.OK {
		t.Fatal(e)
	}
	if m, e := codec.Unpack(b); !slices.Equal(m, l) || e != api.OK {
		t.Errorf("%v, %d", m, e)
	}
}

// P7.2

func TestUnpackThatWasReckonedByHand(t *testing.T) {
	for _, c := range byHand {
		if l, e := codec.Unpack(raw(t, c.want)); !slices.Equal(l, c.l) || e != api.OK {
			t.Errorf("Unpack(%s): %v, %d, not %v", c.want, l, e, c.l)
		}
	}
}

func TestUnpackRefuses(t *testing.T) {
	for _, c := range []struct{ what, b string }{
		{"nothing", ""},
		{"the end within a run", "00"},
		{"the end within a run's varint", "00ff"},
		{"the end within the lengths", "0061 0101"},
		{"the end ahead of the distances", "00ff03"},
		{"the end within the distances", "00ff03 000c"},
		{"the end ahead of the count", "00ff03 000d"},
		{"the end within the count", "0061 0101 009d03  000d  80"},
		{"the end ahead of the bits", "0061 0101 009d03  000d  01"},
		{"the end within the bits", "0061 0101 009d03  000d  09  00"},
		{"the end within a distance's code", "008002 0101 00fe01  0101 000c  05  00"},
		{"the end within the further bits", "00fe03 0101  000b 0101 0001  01  3f"},
		{"a run in two", "0001 00fe03 000d 00"},
		{"a run of two in two", "0061 0101 0101 009c03  000d  02  40"},
		{"a run of distances in two", "00ff03 0001 000c 00"},
		{"a run of none ahead", "0100 00ff03 000d 00"},
		{"a run of none behind", "00ff03 0100 000d 00"},
		{"a run of none within", "0061 0101 0200 009d03  000d  01  00"},
		{"a run that is too long", "008004 000d 00"},
		{"a run that is too long by the next", "0061 0101 009e03  000d  01  00"},
		{"a run of distances that is too long", "00ff03 000e 00"},
		{"the longest run", "00ffffffffffffffffff01 000d 00"},
		{"a run of 2^63", "0080808080808080808001 000d 00"},
		{"a run beyond a varint", "00ffffffffffffffffff02 000d 00"},
		{"a length of 16", "0061 1001 009d03  000d  01  00"},
		{"a length of 255", "0061 ff01 009d03  000d  01  00"},
		{"a lone length of 2", "0061 0201 009d03  000d  01  00"},
		{"three lengths of 1", "0061 0103 009b03  000d  01  00"},
		{"lengths that leave room", "0061 0101 0201 009c03  000d  02  40"},
		{"distances of 16", "008002 0101 00fe01  1001 000c  01  00"},
		{"a lone distance of 3", "008002 0101 00fe01  0301 000c  01  00"},
		{"distances that leave room", "008002 0101 00fe01  0101 0201 000b  01  00"},
		{"a symbol that never comes", "0061 0102 009c03  000d  01  00"},
		{"a code of no tokens", "0061 0101 009d03  000d  00"},
		{"distances of no copies", "0061 0101 009d03  0101 000c  01  00"},
		{"distances' code of another one", "008002 0101 00fe01  0102 000b  01  00"},
		{"no distances of a copy", "008002 0101 00fe01  000d  01  00"},
		{"no symbols of a token", "00ff03 000d 01 00"},
		{"bits that are no symbol's", "0061 0101 009d03  000d  01  80"},
		{"bits that are no distance's", "008002 0101 00fe01  0101 000c  01  40"},
		{"a run's varint of another form", "00e100 0101 009d03  000d  01  00"},
		{"a distances' varint of another form", "00ff03 008d00 00"},
		{"a count of another form", "0061 0101 009d03  000d  8100  00"},
		{"a count of none of another form", "00ff03 000d 8000"},
		{"more tokens than there are", "0061 0101 009d03  000d  11  0000"},
		{"far more tokens than there are", "0061 0101 009d03  000d  ffffffffffffffffff01  0000"},
		{"a count beyond a varint", "0061 0101 009d03  000d  ffffffffffffffffff02  0000"},
		{"fewer tokens than there are", "0061 0101 009d03  000d  08  0000"},
		{"one of the bits behind", "0061 0101 009d03  000d  01  40"},
		{"the last of the bits behind", "0061 0101 009d03  000d  01  01"},
		{"a byte behind", "0061 0101 009d03  000d  01  00 00"},
		{"a byte behind that is not 0", "0061 0101 009d03  000d  01  00 01"},
		{"a byte behind no tokens", "00ff03 000d 00 00"},
		{"two rows of tokens", "00ff03 000d 00 00ff03 000d 00"},
	} {
		refusesTokens(t, c.what, raw(t, c.b), api.ErrCode)
	}
}

func TestUnpackRefusesOtherCodes(t *testing.T) {
	first, second := make([]int, 511), make([]int, 13)
	first['a'], first['b'], first['c'] = 1, 2, 2
	for _, c := range []struct {
		text string
		want api.Errno
	}{
		{"aabc", api.OK},
		{"baacab", api.OK},
		{"aaaaab", api.ErrCode},  // c never comes
		{"abbbbc", api.ErrCode},  // b should have the short code
		{"bcbcbca", api.ErrCode}, // one of those should have it
	} {
		l, e := codec.Unpack(partsBy(lits(c.text), first, second).bytes())
		if e != c.want || e == api.OK && !slices.Equal(l, lits(c.text)) || e != api.OK && len(l) != 0 {
			t.Errorf("%s: %v, %d, not %d", c.text, l, e, c.want)
		}
	}
	far := []api.Token{back(1, 4), back(2, 4), back(4, 4), back(1, 4)}
	first, second = make([]int, 511), make([]int, 13)
	first[256] = 1
	second[0], second[1], second[2] = 1, 2, 2
	if l, e := codec.Unpack(partsBy(far, first, second).bytes()); !slices.Equal(l, far) || e != api.OK {
		t.Errorf("%v, %d", l, e)
	}
	second[0], second[1] = 2, 1
	refusesTokens(t, "other lengths of distances", partsBy(far, first, second).bytes(), api.ErrCode)
}

func TestUnpackRefusesLengthsBeyondTheHalvedOnes(t *testing.T) {
	l := lits(string(tallRow()))
	p := wordedParts(l)
	p.first[0] = 21 // as deep as the first byte is in the tree, without a halving
	refusesTokens(t, "a length above 15", p.bytes(), api.ErrCode)
	flat := make([]int, 511)
	for i := range 32 {
		flat[i] = 5
	}
	refusesTokens(t, "a flat code", partsBy(l, flat, make([]int, 13)).bytes(), api.ErrCode)
}

func TestUnpackOfMoreThanARow(t *testing.T) {
	p := wordedParts(repeat(lit('a'), 65536))
	if l, e := codec.Unpack(p.bytes()); len(l) != 65536 || e != api.OK {
		t.Errorf("as many as may be: %d, %d", len(l), e)
	}
	p.count, p.bits = varint(65537), make([]byte, 65537/8+1)
	refusesTokens(t, "one token more", p.bytes(), api.ErrCode)
	p = wordedParts(repeat(back(1, 256), 256))
	if l, e := codec.Unpack(p.bytes()); len(l) != 256 || e != api.OK {
		t.Errorf("copies of as many as may be: %d, %d", len(l), e)
	}
	refusesTokens(t, "copies of more", wordedPack(repeat(back(1, 256), 257)), api.ErrCode)
	refusesTokens(t, "a byte more", wordedPack(join(repeat(back(1, 256), 256), lits("a"))), api.ErrCode)
}

func TestUnpackOfTooManyBytes(t *testing.T) {
	good := wordedPack(lits("aab"))
	for _, c := range []struct {
		n    int
		want api.Errno
	}{{1<<18 - 1, api.ErrCode}, {1 << 18, api.ErrCode}, {1<<18 + 1, api.ErrLong}, {1 << 20, api.ErrLong}} {
		b := make([]byte, c.n)
		refusesTokens(t, "zeros", b, c.want)
		copy(b, good)
		refusesTokens(t, "tokens with zeros behind", b, c.want)
		refusesTokens(t, "all bits", bytes.Repeat([]byte{255}, c.n), c.want)
	}
}

func TestUnpackOfEachBeginning(t *testing.T) {
	for _, l := range manyTokens() {
		b := wordedPack(l)
		if len(b) > 2000 {
			continue
		}
		for n := range b {
			refusesTokens(t, "a beginning", b[:n], api.ErrCode)
			if m, e := codec.Unpack(slices.Concat(b, b[:n+1])); len(m) != 0 || e != api.ErrCode {
				t.Errorf("%d bytes behind: %d tokens, %d", n+1, len(m), e)
			}
		}
	}
}

// P7.5

func TestUnpackOfPack(t *testing.T) {
	for _, l := range manyTokens() {
		b, e := codec.Pack(l...)
		if e != api.OK {
			t.Fatalf("%d tokens: %d", len(l), e)
		}
		if m, e := codec.Unpack(b); !slices.Equal(m, l) || e != api.OK {
			t.Errorf("%d tokens, %.60v: %d tokens, %d", len(l), l, len(m), e)
		}
	}
}

func TestDecodeOfEncode(t *testing.T) {
	for _, row := range manyRows() {
		b, e := codec.Encode(row)
		if e != api.OK {
			t.Fatalf("%d bytes: %d", len(row), e)
		}
		if x, e := codec.Decode(b); !bytes.Equal(x, row) || e != api.OK {
			t.Errorf("%d bytes, %.20x: %d bytes, %d", len(row), row, len(x), e)
		}
	}
}

// P7.6

func TestEncodeIsNotLonger(t *testing.T) {
	most := 0
	for _, row := range manyRows() {
		b, _ := codec.Encode(row)
		most = max(most, len(b)-len(row))
		if len(b) > len(row)+4 || len(b) == 0 {
			t.Errorf("%d bytes: %d", len(row), len(b))
		}
	}
	if most != 4 {
		t.Errorf("no row became longer by 4, but by %d", most)
	}
}

// P7.7

// holdsOneForm tells whether Unpack takes bytes, and holds that they are what Pack tells of the tokens.
func holdsOneForm(t *testing.T, b []byte) bool {
	t.Helper()
	l, e := codec.Unpack(b)
	if e == api.ErrCode && len(l) == 0 {
		return false
	}
	if again, errno := codec.Pack(l...); e != api.OK || errno != api.OK || !bytes.Equal(again, b) {
		t.Errorf("%.60x: %d tokens, %d; packed again %.60x, %d", b, len(l), e, again, errno)
	}
	if !bytes.Equal(wordedPack(l), b) {
		t.Errorf("%.60x: %d tokens, that are not packed so", b, len(l))
	}
	return true
}

func TestEachBitTurned(t *testing.T) {
	taken, refused := 0, 0
	for _, l := range manyTokens() {
		b := wordedPack(l)
		if len(b) > 300 {
			continue
		}
		for i := range 8 * len(b) {
			b[i/8] ^= 128 >> (i % 8)
			if holdsOneForm(t, b) {
				taken++
			} else {
				refused++
			}
			b[i/8] ^= 128 >> (i % 8)
		}
	}
	if taken < 20 || refused < 1000 {
		t.Errorf("%d were taken, %d refused", taken, refused)
	}
}

func TestBytesTurnedAtWill(t *testing.T) {
	c := chance(72)
	taken := 0
	rows := manyTokens()
	for range 20000 {
		l := rows[c.below(len(rows))]
		if len(l) > 200 {
			continue
		}
		b := wordedPack(l)
		for range 1 + c.below(3) {
			at := c.below(len(b))
			switch c.below(4) {
			case 0:
				b[at] = byte(c.below(256))
			case 1:
				b[at] = byte(c.below(4))
			case 2:
				b = slices.Insert(b, at, byte(c.below(20)))
			default:
				b = slices.Delete(b, at, min(at+1+c.below(2), len(b)))
			}
			if len(b) == 0 {
				break
			}
		}
		if holdsOneForm(t, b) {
			taken++
		}
	}
	if taken < 20 {
		t.Errorf("only %d were taken", taken)
	}
}

func TestBytesWithoutAPattern(t *testing.T) {
	c := chance(73)
	for range 20000 {
		b := c.row(c.below(60), 1+c.below(256))
		if c.below(2) == 0 {
			b = append([]byte{0, 0xff, 3, 0, 13}, b...)
		}
		holdsOneForm(t, b)
	}
}

// What holds everywhere.

func TestArgumentsStay(t *testing.T) {
	l := join(lits("abc"), []api.Token{back(3, 6)}, lits("d"))
	kept := slices.Clone(l)
	b, _ := codec.Pack(l...)
	keptPack := bytes.Clone(b)
	codec.Unpack(b)
	row := bytes.Repeat([]byte("abcabd"), 40)
	keptRow := bytes.Clone(row)
	code, _ := codec.Encode(row)
	keptCode := bytes.Clone(code)
	codec.Decode(code)
	codec.Head(code)
	if !slices.Equal(l, kept) || !bytes.Equal(b, keptPack) || !bytes.Equal(row, keptRow) || !bytes.Equal(code, keptCode) {
		t.Error("an argument was changed")
	}
}

func TestAnswersAreNew(t *testing.T) {
	for _, row := range [][]byte{[]byte("abc"), bytes.Repeat([]byte("abcabd"), 40)} {
		kept := bytes.Clone(row)
		code, _ := codec.Encode(row)
		keptCode := bytes.Clone(code)
		back, _ := codec.Decode(code)
		clear(back)
		if !bytes.Equal(code, keptCode) || !bytes.Equal(row, kept) {
			t.Error("a row is shared with its code")
		}
		clear(code)
		if again, _ := codec.Encode(row); !bytes.Equal(row, kept) || !bytes.Equal(again, keptCode) {
			t.Error("a code is shared with its row, or another answer")
		}
	}
	// Room behind an argument's end is not its own.
	room := append(make([]byte, 0, 64), "ab"...)
	codec.Encode(room)
	if !bytes.Equal(room[:64], append([]byte("ab"), make([]byte, 62)...)) {
		t.Error("written behind an argument's end")
	}
}

func TestTheSameAnswerAgain(t *testing.T) {
	c := chance(74)
	row := c.row(9000, 9)
	first, _ := codec.Encode(row)
	for range 5 {
		codec.Encode(c.row(500, 3))
		codec.Decode(c.row(500, 3))
		if b, _ := codec.Encode(row); !bytes.Equal(b, first) {
			t.Fatal("another code")
		}
	}
}
