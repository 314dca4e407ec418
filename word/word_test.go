package word_test

import (
	"bytes"
	"encoding/binary"
	"math"
	"math/big"
	"math/bits"
	"slices"
	"testing"

	"saltern/api"
	"saltern/word"
)

var widths = []int{8, 16, 32, 64}

var orders = []api.Order{api.Big, api.Little}

// noWidths are near to a width, or have the bits of one cut off or turned round.
var noWidths = []int{math.MinInt, -64, -8, -1, 0, 1, 7, 9, 15, 17, 24, 31, 33, 40, 48, 63, 65, 128, 1<<32 + 8, math.MaxInt}

var noOrders = []api.Order{math.MinInt, -2, -1, 0, 3, 1<<32 + 1, math.MaxInt}

// numbers are both sides of each power of 2, and some without a pattern.
func numbers() []uint64 {
	l := []uint64{0, math.MaxUint64, 0x0123456789abcdef, 0x8000000000000001}
	for i := range 64 {
		p := uint64(1) << i
		l = append(l, p-1, p, p+1)
	}
	x := uint64(1)
	for range 200 {
		x = x*6364136223846793005 + 1442695040888963407
		l = append(l, x, x>>(x>>58))
	}
	return l
}

func rotated(x uint64, width, by int) uint64 {
	switch width {
	case 8:
		return uint64(bits.RotateLeft8(uint8(x), by))
	case 16:
		return uint64(bits.RotateLeft16(uint16(x), by))
	case 32:
		return uint64(bits.RotateLeft32(uint32(x), by))
	}
	return bits.RotateLeft64(x, by)
}

func cut(x uint64, width int) uint64 { return rotated(x, width, 0) }

func spread(x uint64, width int, o api.Order) []byte {
	b := make([]byte, 8)
	if o == api.Big {
		binary.BigEndian.PutUint64(b, x)
		return b[8-width/8:]
	}
	binary.LittleEndian.PutUint64(b, x)
	return b[:width/8]
}

// P1.1

func TestTurnExamples(t *testing.T) {
	for _, c := range []struct {
		x        uint64
		bits, by int
		want     uint64
	}{
		{0x81, 8, 0, 0x81},
		{0x81, 8, 1, 0x03},
		{0x81, 8, -1, 0xc0},
		{0x81, 8, 8, 0x81},
		{0x81, 8, 9, 0x03},
		{0x81, 8, -9, 0xc0},
		{0x1234, 16, 4, 0x2341},
		{0x1234, 16, -4, 0x4123},
		{0x12345678, 32, 8, 0x34567812},
		{0x12345678, 32, -8, 0x78123456},
		{0x123456789abcdef0, 64, 12, 0x456789abcdef0123},
		{0x123456789abcdef0, 64, -12, 0xef0123456789abcd},
		{1, 64, 64, 1},
		{1, 64, 65, 2},
		{1, 64, -1, 1 << 63},
		{0xff00, 8, 3, 0},
		{0xffff0001, 16, 15, 0x8000},
	} {
		if x, e := word.Turn(c.x, c.bits, c.by); x != c.want || e != api.OK {
			t.Errorf("Turn(%#x, %d, %d) = %#x, %d; want %#x", c.x, c.bits, c.by, x, e, c.want)
		}
	}
}

func TestTurnByAll(t *testing.T) {
	for _, w := range widths {
		for _, x := range numbers() {
			for by := -130; by <= 130; by++ {
				if got, e := word.Turn(x, w, by); got != rotated(x, w, by) || e != api.OK {
					t.Fatalf("Turn(%#x, %d, %d) = %#x, %d", x, w, by, got, e)
				}
			}
		}
	}
}

func TestTurnByTheGreatest(t *testing.T) {
	for _, w := range widths {
		for _, by := range []int{math.MinInt, math.MinInt + 1, math.MinInt32, math.MaxInt32, math.MaxInt - 1, math.MaxInt} {
			x := uint64(0x8123456789abcd35)
			if got, e := word.Turn(x, w, by); got != rotated(x, w, by&(w-1)) || e != api.OK {
				t.Errorf("Turn(%#x, %d, %d) = %#x, %d", x, w, by, got, e)
			}
		}
	}
}

func TestTurnNoWidth(t *testing.T) {
	for _, w := range noWidths {
		for _, by := range []int{math.MinInt, -1, 0, 1, math.MaxInt} {
			if x, e := word.Turn(math.MaxUint64, w, by); x != 0 || e != api.ErrSize {
				t.Errorf("Turn(.., %d, %d) = %d, %d", w, by, x, e)
			}
		}
	}
}

// P1.2

func TestBytes(t *testing.T) {
	for _, c := range []struct {
		x    uint64
		bits int
		o    api.Order
		want string
	}{
		{0x1234, 16, api.Little, "\x34\x12"},
		{0x1234, 16, api.Big, "\x12\x34"},
		{0x123456, 16, api.Big, "\x34\x56"},
		{0x1ff, 8, api.Big, "\xff"},
		{0x1ff, 8, api.Little, "\xff"},
		{1, 32, api.Big, "\x00\x00\x00\x01"},
		{1, 32, api.Little, "\x01\x00\x00\x00"},
		{0x0102030405060708, 64, api.Big, "\x01\x02\x03\x04\x05\x06\x07\x08"},
		{0x0102030405060708, 64, api.Little, "\x08\x07\x06\x05\x04\x03\x02\x01"},
	} {
		if b, e := word.Bytes(c.x, c.bits, c.o); string(b) != c.want || e != api.OK {
			t.Errorf("Bytes(%#x, %d, %d) = %x, %d; want %x", c.x, c.bits, c.o, b, e, c.want)
		}
	}
	for _, w := range widths {
		for _, o := range orders {
			for _, x := range numbers() {
				if b, e := word.Bytes(x, w, o); !bytes.Equal(b, spread(x, w, o)) || e != api.OK {
					t.Fatalf("Bytes(%#x, %d, %d) = %x, %d", x, w, o, b, e)
				}
			}
		}
	}
}

func TestWordTakesTheFirstBytes(t *testing.T) {
	b := []byte{0x81, 0x02, 0x03, 0x04, 0x05, 0x06, 0x07, 0xf8, 0xff}
	want := map[api.Order][]uint64{
		api.Big:    {0x81, 0x8102, 0x81020304, 0x81020304050607f8},
		api.Little: {0x81, 0x0281, 0x04030281, 0xf807060504030281},
	}
	for _, o := range orders {
		for i, w := range widths {
			for n := w / 8; n <= len(b); n++ {
				if x, e := word.Word(b[:n], w, o); x != want[o][i] || e != api.OK {
					t.Errorf("Word(%x, %d, %d) = %#x, %d; want %#x", b[:n], w, o, x, e, want[o][i])
				}
			}
			for n := range w / 8 {
				if x, e := word.Word(b[:n], w, o); x != 0 || e != api.ErrShort {
					t.Errorf("Word(%x, %d, %d) = %#x, %d; want ErrShort", b[:n], w, o, x, e)
				}
			}
			if x, e := word.Word(nil, w, o); x != 0 || e != api.ErrShort {
				t.Errorf("Word(nil, %d, %d) = %#x, %d; want ErrShort", w, o, x, e)
			}
		}
	}
}

func TestWords(t *testing.T) {
	for _, o := range orders {
		for _, w := range widths {
			var b []byte
			var want []uint64
			for _, x := range numbers() {
				b = append(b, spread(x, w, o)...)
				want = append(want, cut(x, w))
				if len(want) < 4 || len(want) == len(numbers()) {
					if l, e := word.Words(b, w, o); !slices.Equal(l, want) || e != api.OK {
						t.Errorf("Words of %d numbers, %d, %d = %x, %d", len(want), w, o, l, e)
					}
				}
			}
		}
	}
}

func TestWordsOfNoMultiple(t *testing.T) {
	b := make([]byte, 40)
	for _, o := range orders {
		for _, w := range widths {
			for n := range len(b) {
				l, e := word.Words(b[:n], w, o)
				if n%(w/8) != 0 && (len(l) != 0 || e != api.ErrShort) {
					t.Errorf("Words of %d bytes, %d, %d = %v, %d; want ErrShort", n, w, o, l, e)
				}
				if n%(w/8) == 0 && (len(l) != n/(w/8) || e != api.OK) {
					t.Errorf("Words of %d bytes, %d, %d = %v, %d", n, w, o, l, e)
				}
			}
			if l, e := word.Words(nil, w, o); len(l) != 0 || e != api.OK {
				t.Errorf("Words(nil, %d, %d) = %v, %d", w, o, l, e)
			}
		}
	}
}

// refuses holds the calls that take a width and an order against the error that must come; bytes too few count behind it.
func refuses(t *testing.T, w int, o api.Order, want api.Errno) {
	t.Helper()
	for _, b := range [][]byte{nil, {1}, make([]byte, 64)} {
		if x, e := word.Word(b, w, o); x != 0 || e != want {
			t.Errorf("Word of %d bytes, %d, %d = %d, %d; want %d", len(b), w, o, x, e, want)
		}
		if l, e := word.Words(b, w, o); len(l) != 0 || e != want {
			t.Errorf("Words of %d bytes, %d, %d = %v, %d; want %d", len(b), w, o, l, e, want)
		}
	}
	if b, e := word.Bytes(math.MaxUint64, w, o); len(b) != 0 || e != want {
		t.Errorf("Bytes(.., %d, %d) = %x, %d; want %d", w, o, b, e, want)
	}
}

func TestNoWidth(t *testing.T) {
	for _, w := range noWidths {
		for _, o := range slices.Concat(orders, noOrders) {
			refuses(t, w, o, api.ErrSize)
		}
	}
}

func TestNoOrder(t *testing.T) {
	for _, w := range widths {
		for _, o := range noOrders {
			refuses(t, w, o, api.ErrArg)
		}
	}
}

// P1.3

func TestVarint(t *testing.T) {
	for _, c := range []struct {
		x    uint64
		want string
	}{
		{0, "\x00"},
		{1, "\x01"},
		{127, "\x7f"},
		{128, "\x80\x01"},
		{300, "\xac\x02"},
		{1<<14 - 1, "\xff\x7f"},
		{1 << 14, "\x80\x80\x01"},
		{1<<63 - 1, "\xff\xff\xff\xff\xff\xff\xff\xff\x7f"},
		{1 << 63, "\x80\x80\x80\x80\x80\x80\x80\x80\x80\x01"},
		{math.MaxUint64, "\xff\xff\xff\xff\xff\xff\xff\xff\xff\x01"},
	} {
		if b := word.Varint(c.x); string(b) != c.want {
			t.Errorf("Varint(%d) = %x; want %x", c.x, b, c.want)
		}
		if x, n, e := word.Read([]byte(c.want)); x != c.x || n != len(c.want) || e != api.OK {
			t.Errorf("Read(%x) = %d, %d, %d; want %d", c.want, x, n, e, c.x)
		}
	}
	for _, x := range numbers() {
		if b := word.Varint(x); !bytes.Equal(b, binary.AppendUvarint(nil, x)) {
			t.Errorf("Varint(%d) = %x", x, b)
		}
	}
}

func TestReadOfABeginning(t *testing.T) {
	if x, n, e := word.Read(nil); x != 0 || n != 0 || e != api.ErrShort {
		t.Errorf("Read(nil) = %d, %d, %d", x, n, e)
	}
	for _, x := range numbers() {
		b := word.Varint(x)
		for n := range len(b) {
			if y, k, e := word.Read(b[:n]); y != 0 || k != n || e != api.ErrShort {
				t.Errorf("Read(%x) = %d, %d, %d; want ErrShort", b[:n], y, k, e)
			}
		}
	}
}

func TestReadOfNoVarint(t *testing.T) {
	for n := 1; n <= 9; n++ {
		for _, c := range []byte{0x80, 0xff} {
			b := append(bytes.Repeat([]byte{c}, n), 0, 1, 1)
			if x, k, e := word.Read(b); x != 0 || k != n || e != api.ErrVarint {
				t.Errorf("Read(%x) = %d, %d, %d; want ErrVarint at %d", b, x, k, e, n)
			}
		}
	}
	for c := range 256 {
		b := append(bytes.Repeat([]byte{0x80}, 9), byte(c))
		for _, b := range [][]byte{b, append(slices.Clone(b), 0x80), append(slices.Clone(b), 1)} {
			x, n, e := word.Read(b)
			if c == 1 && (x != 1<<63 || n != 10 || e != api.OK) {
				t.Errorf("Read(%x) = %d, %d, %d", b, x, n, e)
			}
			if c != 1 && (x != 0 || n != 9 || e != api.ErrVarint) {
				t.Errorf("Read(%x) = %d, %d, %d; want ErrVarint at 9", b, x, n, e)
			}
		}
	}
}

// TestReadOfAllPairs holds Read of each two bytes against what the varints' beginnings say of them.
func TestReadOfAllPairs(t *testing.T) {
	whole := map[string]uint64{}
	begins := map[string]int{"": 1}
	for x := range uint64(1 << 21) {
		b := binary.AppendUvarint(nil, x)
		if len(b) <= 2 {
			whole[string(b)] = x
		}
		begins[string(b[:1])] = 1
		if len(b) > 1 {
			begins[string(b[:2])] = 1
		}
	}
	for i := range 1 << 16 {
		b := []byte{byte(i >> 8), byte(i)}
		var want uint64
		place, fault := 0, api.OK
		if x, ok := whole[string(b[:1])]; ok {
			want, place = x, 1
		} else if x, ok := whole[string(b)]; ok {
			want, place = x, 2
		} else if begins[string(b)] != 0 {
			place, fault = 2, api.ErrShort
		} else if begins[string(b[:1])] != 0 {
			place, fault = 1, api.ErrVarint
		} else {
			place, fault = 0, api.ErrVarint
		}
		if x, n, e := word.Read(b); x != want || n != place || e != fault {
			t.Fatalf("Read(%x) = %d, %d, %d; want %d, %d, %d", b, x, n, e, want, place, fault)
		}
	}
}

// P1.4

func TestZigzag(t *testing.T) {
	for _, c := range []struct {
		x    int64
		want uint64
	}{
		{0, 0}, {-1, 1}, {1, 2}, {-2, 3}, {2, 4}, {-64, 127}, {64, 128},
		{math.MaxInt32, 1<<32 - 2}, {math.MinInt32, 1<<32 - 1},
		{math.MaxInt64, math.MaxUint64 - 1}, {math.MinInt64, math.MaxUint64},
		{math.MinInt64 + 1, math.MaxUint64 - 2},
	} {
		if z := word.Zigzag(c.x); z != c.want {
			t.Errorf("Zigzag(%d) = %d; want %d", c.x, z, c.want)
		}
		if x := word.Unzigzag(c.want); x != c.x {
			t.Errorf("Unzigzag(%d) = %d; want %d", c.want, x, c.x)
		}
	}
	for _, n := range numbers() {
		x := int64(n)
		want := new(big.Int).Lsh(big.NewInt(x), 1)
		if x < 0 {
			want.Neg(want).Sub(want, big.NewInt(1))
		}
		if z := word.Zigzag(x); z != want.Uint64() {
			t.Errorf("Zigzag(%d) = %d; want %s", x, z, want)
		}
	}
}

// P1.5

func TestThereAndBack(t *testing.T) {
	for _, x := range numbers() {
		for _, w := range widths {
			for _, o := range orders {
				b, _ := word.Bytes(x, w, o)
				if y, e := word.Word(b, w, o); y != cut(x, w) || e != api.OK {
					t.Errorf("Word of Bytes(%#x, %d, %d) = %#x, %d", x, w, o, y, e)
				}
			}
			for _, by := range []int{-65, -w, -3, 0, 5, w, 71} {
				y, _ := word.Turn(x, w, by)
				if y, e := word.Turn(y, w, -by); y != cut(x, w) || e != api.OK {
					t.Errorf("Turn(%#x, %d, %d) turned back = %#x, %d", x, w, by, y, e)
				}
			}
		}
		for _, behind := range []string{"", "\x00", "\x01", "\x80", "\xff\xff"} {
			b := word.Varint(x)
			if y, n, e := word.Read(append(slices.Clone(b), behind...)); y != x || n != len(b) || e != api.OK {
				t.Errorf("Read of Varint(%d) and %x = %d, %d, %d", x, behind, y, n, e)
			}
		}
		if y := word.Unzigzag(word.Zigzag(int64(x))); y != int64(x) {
			t.Errorf("Unzigzag of Zigzag(%d) = %d", int64(x), y)
		}
		if y := word.Zigzag(word.Unzigzag(x)); y != x {
			t.Errorf("Zigzag of Unzigzag(%d) = %d", x, y)
		}
	}
}

// P1.6

func TestOneForm(t *testing.T) {
	told := 0
	hold := func(b []byte) {
		x, n, e := word.Read(b)
		if e != api.OK {
			return
		}
		told++
		if v := word.Varint(x); !bytes.Equal(v, b[:n]) {
			t.Errorf("Read(%x) = %d, %d; its Varint is %x", b, x, n, v)
		}
	}
	ends := []string{"", "\x00", "\x01", "\x02", "\x7f", "\x80", "\x80\x00", "\x81\x01"}
	for _, c := range []byte{0x80, 0x81, 0xaa, 0xff} {
		for n := range 12 {
			for _, end := range ends {
				hold(append(bytes.Repeat([]byte{c}, n), end...))
			}
		}
	}
	for _, x := range numbers() {
		for _, y := range []uint64{0x8080808080808080, 0x80, 0} {
			b := binary.LittleEndian.AppendUint64(nil, x|y)
			hold(append(b, byte(x>>5), byte(x>>58)))
		}
	}
	if told == 0 {
		t.Error("Read told of no varint")
	}
}

// Rule 4: what is handed in is neither changed nor kept, and an answer is new memory.

func TestArgumentsStay(t *testing.T) {
	b := []byte{0x81, 0x82, 3, 4, 5, 6, 7, 8}
	was := slices.Clone(b)
	for _, w := range widths {
		for _, o := range orders {
			word.Word(b, w, o)
			word.Words(b, w, o)
		}
	}
	word.Read(b)
	if !bytes.Equal(b, was) {
		t.Errorf("the bytes were changed: %x", b)
	}
}

func TestAnswersAreNew(t *testing.T) {
	for _, make := range []func() []byte{
		func() []byte { b, _ := word.Bytes(0x1234, 16, api.Big); return b },
		func() []byte { return word.Varint(0) },
		func() []byte { return word.Varint(300) },
	} {
		one := make()
		was := slices.Clone(one)
		one[0] ^= 0xff
		if two := make(); !bytes.Equal(two, was) {
			t.Errorf("an answer was %x, and is %x", was, two)
		}
	}
}
