package sha_test

import (
	"bytes"
	"crypto/sha256"
	"encoding/binary"
	"encoding/hex"
	"math"
	"math/big"
	"strings"
	"testing"

	"saltern/api"
	"saltern/sha"
	"saltern/word"
)

// edges are the lengths around which the padding takes one block more, and the blocks' ends.
var edges = []int{0, 1, 2, 3, 54, 55, 56, 57, 62, 63, 64, 65, 66, 118, 119, 120, 121, 127, 128, 129, 183, 184, 191, 192, 193, 255, 256, 257, 1000, 4095, 4096, 4097, api.MaxRaw, api.MaxRaw + 1}

// row is n bytes without a pattern.
func row(n int, seed uint64) []byte {
	b := make([]byte, n)
	x := seed
	for i := range b {
		x = x*6364136223846793005 + 1442695040888963407
		b[i] = byte(x >> 56)
	}
	return b
}

// rows are of all small lengths and of the edges; some are all 0 or all ones.
func rows() [][]byte {
	l := [][]byte{nil, {}}
	for n := range 200 {
		l = append(l, row(n, uint64(n)))
	}
	for _, n := range edges {
		l = append(l, row(n, 7), make([]byte, n), bytes.Repeat([]byte{0xff}, n))
	}
	return l
}

// known is the library's digest.
func known(b []byte) api.Digest {
	return sha256.Sum256(b)
}

// primes are the first n.
func primes(n int) []int64 {
	var l []int64
	for x := int64(2); len(l) < n; x++ {
		if big.NewInt(x).ProbablyPrime(20) {
			l = append(l, x)
		}
	}
	return l
}

// squareRootPart is what the chapter's words call it: the root of p times 2 to the 64, cut, has 32 bits behind the point.
func squareRootPart(p int64) uint32 {
	x := new(big.Int).Lsh(big.NewInt(p), 64)
	return uint32(x.Sqrt(x).Uint64())
}

// cubeRootPart finds the greatest number whose cube is not above p times 2 to the 96.
func cubeRootPart(p int64) uint32 {
	most := new(big.Int).Lsh(big.NewInt(p), 96)
	root := new(big.Int)
	for i := 40; i >= 0; i-- {
		x := new(big.Int).SetBit(root, i, 1)
		if new(big.Int).Exp(x, big.NewInt(3), nil).Cmp(most) <= 0 {
			root = x
		}
	}
	return uint32(root.Uint64())
}

// turned is a number turned right, by word.
func turned(x uint32, n int) uint32 {
	y, _ := word.Turn(uint64(x), 32, -n)
	return uint32(y)
}

// stepped is a step as the chapter's words say it.
func stepped(state [8]uint32, block [64]byte, k []uint32) [8]uint32 {
	var w [64]uint32
	for i := range 16 {
		w[i] = binary.BigEndian.Uint32(block[4*i:])
	}
	for i := 16; i < 64; i++ {
		x, y := w[i-15], w[i-2]
		s0 := turned(x, 7) ^ turned(x, 18) ^ x>>3
		s1 := turned(y, 17) ^ turned(y, 19) ^ y>>10
		w[i] = w[i-16] + w[i-7] + s0 + s1
	}
	s := state
	for i := range 64 {
		a, b, c, e, f, g, h := s[0], s[1], s[2], s[4], s[5], s[6], s[7]
		t1 := h + (turned(e, 6) ^ turned(e, 11) ^ turned(e, 25)) + ((e & f) ^ (^e & g)) + k[i] + w[i]
		t2 := (turned(a, 2) ^ turned(a, 13) ^ turned(a, 22)) + ((a & b) ^ (a & c) ^ (b & c))
		copy(s[1:], s[:7])
		s[4] += t1
		s[0] = t1 + t2
	}
	for i := range s {
		s[i] += state[i]
	}
	return s
}

// constants are k, as the chapter's words say it.
func constants() []uint32 {
	var k []uint32
	for _, p := range primes(64) {
		k = append(k, cubeRootPart(p))
	}
	return k
}

// states are the edges of its numbers, and some without a pattern.
func states() [][8]uint32 {
	l := [][8]uint32{sha.Start(), {}}
	var ones [8]uint32
	for i := range ones {
		ones[i] = math.MaxUint32
		for _, x := range []uint32{1, 1 << 31, math.MaxUint32} {
			var s [8]uint32
			s[i] = x
			l = append(l, s)
		}
	}
	l = append(l, ones)
	for i := range 20 {
		l = append(l, stateOf(row(32, uint64(i))))
	}
	return l
}

// stateOf is the state that 32 bytes tell.
func stateOf(b []byte) [8]uint32 {
	var s [8]uint32
	for i := range s {
		s[i] = binary.BigEndian.Uint32(b[4*i:])
	}
	return s
}

// digestOf is a state as bytes.
func digestOf(s [8]uint32) api.Digest {
	var d api.Digest
	for i, x := range s {
		binary.BigEndian.PutUint32(d[4*i:], x)
	}
	return d
}

// walked is the state behind whole blocks.
func walked(s [8]uint32, b []byte) [8]uint32 {
	for ; len(b) > 0; b = b[64:] {
		s = sha.Step(s, [64]byte(b))
	}
	return s
}

// joined are rows, one behind the other, in new memory.
func joined(l ...[]byte) []byte {
	return bytes.Join(l, nil)
}

// written is a Hash of some Writes.
func written(t *testing.T, l ...[]byte) *sha.Hash {
	t.Helper()
	h := sha.New()
	for _, b := range l {
		write(t, h, b)
	}
	return h
}

func write(t *testing.T, h *sha.Hash, b []byte) {
	t.Helper()
	if e := h.Write(b); e != api.OK {
		t.Fatalf("Write of %d bytes: %d", len(b), e)
	}
}

func sum(t *testing.T, h *sha.Hash) api.Digest {
	t.Helper()
	d, e := h.Sum()
	if e != api.OK {
		t.Fatalf("Sum: %d", e)
	}
	return d
}

func copied(t *testing.T, h *sha.Hash) *sha.Hash {
	t.Helper()
	c, e := h.Copy()
	if e != api.OK || c == nil {
		t.Fatalf("Copy: %v, %d", c, e)
	}
	return c
}

// P3.1

func TestExamples(t *testing.T) {
	for s, want := range map[string]string{
		"":    "e3b0c44298fc1c149afbf4c8996fb92427ae41e4649b934ca495991b7852b855",
		"abc": "ba7816bf8f01cfea414140de5dae2223b00361a396177a9cb410ff61f20015ad",
		"abcdbcdecdefdefgefghfghighijhijkijkljklmklmnlmnomnopnopq": "248d6a61d20638b8e5c026930c3e6039a33ce45964ff2167f6ecedd419db06c1",
	} {
		if got := sha.Text(sha.Sum([]byte(s))); got != want {
			t.Errorf("Sum of %q: %s", s, got)
		}
	}
	if n := len(sha.Pad(55)); n != 9 {
		t.Errorf("Pad(55) has %d bytes", n)
	}
	if n := len(sha.Pad(56)); n != 72 {
		t.Errorf("Pad(56) has %d bytes", n)
	}
}

func TestStartIsOfSquareRoots(t *testing.T) {
	s := sha.Start()
	for i, p := range primes(8) {
		if want := squareRootPart(p); s[i] != want {
			t.Errorf("Start at %d: %#08x, want %#08x", i, s[i], want)
		}
	}
}

func TestStepIsThatOfTheWords(t *testing.T) {
	k := constants()
	for i, s := range states() {
		for j := range 6 {
			b := [64]byte(row(64, uint64(100*i+j)))
			switch j {
			case 0:
				b = [64]byte{}
			case 1:
				b = [64]byte(bytes.Repeat([]byte{0xff}, 64))
			}
			if got, want := sha.Step(s, b), stepped(s, b, k); got != want {
				t.Fatalf("Step of %x and %x: %x, want %x", s, b, got, want)
			}
		}
	}
}

func TestStepHeedsEachByte(t *testing.T) {
	k := constants()
	for i := range 64 {
		var b [64]byte
		b[i] = 1
		if got, want := sha.Step([8]uint32{}, b), stepped([8]uint32{}, b, k); got != want {
			t.Errorf("a byte 1 at %d: %x, want %x", i, got, want)
		}
	}
}

// padded is the padding as the chapter's words say it: one byte 0 more until it fits, in numbers without bound.
func padded(n uint64) []byte {
	b := []byte{128}
	whole := new(big.Int).SetUint64(n)
	whole.Add(whole, big.NewInt(1+8))
	for new(big.Int).Mod(whole, big.NewInt(64)).Sign() != 0 {
		b = append(b, 0)
		whole.Add(whole, big.NewInt(1))
	}
	bits := new(big.Int).SetUint64(n)
	bits.Mul(bits, big.NewInt(8))
	bits.Mod(bits, new(big.Int).Lsh(big.NewInt(1), 64))
	return append(b, bits.FillBytes(make([]byte, 8))...)
}

func TestPadIsThatOfTheWords(t *testing.T) {
	var l []uint64
	for n := range uint64(300) {
		l = append(l, n, -n)
	}
	for i := range 64 {
		for d := range uint64(70) {
			l = append(l, uint64(1)<<i-d, uint64(1)<<i+d)
		}
	}
	l = append(l, api.MaxSha, math.MaxUint64, math.MaxInt64, 0x0123456789abcdef)
	for _, n := range l {
		if got, want := sha.Pad(n), padded(n); !bytes.Equal(got, want) {
			t.Fatalf("Pad(%d): %x, want %x", n, got, want)
		}
	}
}

func TestPadCutsTheCountOfBits(t *testing.T) {
	for _, n := range []uint64{0, 1 << 61, 1 << 62, 7 << 61} {
		if p := sha.Pad(n); len(p) != 64 || p[0] != 128 || !bytes.Equal(p[1:], make([]byte, 63)) {
			t.Errorf("Pad(%d): %x", n, p)
		}
	}
	p := sha.Pad(1<<61 + 1)
	if len(p) != 63 || p[62] != 8 || p[55] != 0 {
		t.Errorf("Pad(2^61+1): %x", p)
	}
	p = sha.Pad(math.MaxUint64)
	if len(p) != 65 || !bytes.Equal(p[57:], []byte{255, 255, 255, 255, 255, 255, 255, 248}) {
		t.Errorf("Pad(2^64-1): %x", p)
	}
}

func TestSumIsTheDigest(t *testing.T) {
	for _, b := range rows() {
		if got := sha.Sum(b); got != known(b) {
			t.Fatalf("Sum of %d bytes: %x", len(b), got)
		}
	}
}

func TestSumOfNoRows(t *testing.T) {
	want := known(nil)
	for i, d := range []api.Digest{sha.Sum(), sha.Sum(nil), sha.Sum([]byte{}), sha.Sum(nil, []byte{}, nil), sha.Sum([][]byte{}...)} {
		if d != want {
			t.Errorf("%d: %x", i, d)
		}
	}
}

func TestSumJoinsRowsInTheirOrder(t *testing.T) {
	a, b, c := row(40, 1), row(50, 2), row(60, 3)
	if sha.Sum(a, b, c) != known(joined(a, b, c)) || sha.Sum(c, b, a) != known(joined(c, b, a)) {
		t.Error("rows are not joined in their order")
	}
	if sha.Sum(a, b) == sha.Sum(b, a) {
		t.Error("the order of rows makes no difference")
	}
}

// P3.2

func TestNewHasNoBytes(t *testing.T) {
	if d := sum(t, sha.New()); d != known(nil) {
		t.Errorf("Sum: %x", d)
	}
}

func TestWriteComesBehind(t *testing.T) {
	for _, n := range edges {
		for _, m := range edges[:len(edges)-5] {
			a, b := row(n, 1), row(m, 2)
			if d := sum(t, written(t, a, b)); d != known(joined(a, b)) {
				t.Fatalf("%d bytes and %d: %x", n, m, d)
			}
		}
	}
}

func TestEmptyWritesChangeNothing(t *testing.T) {
	for _, n := range edges {
		b := row(n, 3)
		if d := sum(t, written(t, nil, b, []byte{}, nil)); d != known(b) {
			t.Errorf("%d bytes: %x", n, d)
		}
	}
}

func TestSumLeavesRoomForMore(t *testing.T) {
	h := sha.New()
	var all []byte
	for i := range 300 {
		more := row(i%67, uint64(i))
		write(t, h, more)
		all = append(all, more...)
		if sum(t, h) != known(all) || sum(t, h) != known(all) {
			t.Fatalf("behind Write %d", i)
		}
	}
}

func TestCopyHasTheSameBytes(t *testing.T) {
	for _, n := range edges {
		h := written(t, row(n, 4))
		c := copied(t, h)
		if sum(t, c) != known(row(n, 4)) || sum(t, h) != known(row(n, 4)) || c == h {
			t.Errorf("%d bytes", n)
		}
	}
}

func TestCopyAndThenOtherBytes(t *testing.T) {
	for _, n := range edges {
		for _, m := range []int{1, 8, 55, 63, 64, 65, 200} {
			a, x, y := row(n, 5), row(m, 6), row(m+1, 7)
			h := written(t, a)
			c := copied(t, h)
			write(t, h, x)
			write(t, c, y)
			write(t, h, y)
			if sum(t, h) != known(joined(a, x, y)) || sum(t, c) != known(joined(a, y)) {
				t.Fatalf("%d bytes, then %d", n, m)
			}
		}
	}
}

func TestCopyOfACopy(t *testing.T) {
	h := written(t, []byte("a"))
	c := copied(t, h)
	write(t, c, []byte("b"))
	d := copied(t, c)
	write(t, d, []byte("c"))
	write(t, h, []byte("x"))
	if sum(t, d) != known([]byte("abc")) || sum(t, c) != known([]byte("ab")) || sum(t, h) != known([]byte("ax")) {
		t.Error("copies are not on their own")
	}
}

func TestCopyOfNoBytes(t *testing.T) {
	h := sha.New()
	c := copied(t, h)
	write(t, c, []byte("abc"))
	if sum(t, h) != known(nil) || sum(t, c) != known([]byte("abc")) {
		t.Error("a copy of an empty one")
	}
}

func TestHashesAreOnTheirOwn(t *testing.T) {
	a, b := sha.New(), sha.New()
	write(t, a, []byte("a"))
	write(t, b, []byte("b"))
	if sum(t, a) != known([]byte("a")) || sum(t, b) != known([]byte("b")) {
		t.Error("one Hash has the other one's bytes")
	}
}

func TestHashThatNobodyMade(t *testing.T) {
	var none *sha.Hash
	made := written(t, []byte("abc"))
	*made = sha.Hash{}
	for i, h := range []*sha.Hash{none, {}, new(sha.Hash), made} {
		for _, b := range [][]byte{nil, {}, []byte("abc"), row(200, 1)} {
			if e := h.Write(b); e != api.ErrNil {
				t.Errorf("%d: Write of %d bytes: %d", i, len(b), e)
			}
		}
		if d, e := h.Sum(); e != api.ErrNil || d != (api.Digest{}) {
			t.Errorf("%d: Sum: %x, %d", i, d, e)
		}
		if c, e := h.Copy(); e != api.ErrNil || c != nil {
			t.Errorf("%d: Copy: %v, %d", i, c, e)
		}
		if e := h.Write([]byte("a")); e != api.ErrNil {
			t.Errorf("%d: Write behind others: %d", i, e)
		}
	}
}

// P3.3

func TestTextOfEachByte(t *testing.T) {
	for i := range 256 {
		for at := range 32 {
			var d api.Digest
			d[at] = byte(i)
			s := sha.Text(d)
			if s != hex.EncodeToString(d[:]) {
				t.Fatalf("a byte %d at %d: %s", i, at, s)
			}
			if got, e := sha.Read(s); e != api.OK || got != d {
				t.Fatalf("Read(%s): %x, %d", s, got, e)
			}
		}
	}
}

func TestReadOfAnotherLength(t *testing.T) {
	full := strings.Repeat("0123456789abcdef", 9)
	for n := range len(full) {
		d, e := sha.Read(full[:n])
		if n == 64 {
			if e != api.OK || sha.Text(d) != full[:n] {
				t.Errorf("%d digits: %x, %d", n, d, e)
			}
		} else if e != api.ErrArg || d != (api.Digest{}) {
			t.Errorf("%d digits: %x, %d", n, d, e)
		}
	}
}

func TestReadOfOtherLetters(t *testing.T) {
	good := sha.Text(known([]byte("abc")))
	for at := range 64 {
		for c := range 256 {
			s := good[:at] + string([]byte{byte(c)}) + good[at+1:]
			d, e := sha.Read(s)
			if strings.IndexByte("0123456789abcdef", byte(c)) >= 0 {
				if e != api.OK || sha.Text(d) != s {
					t.Fatalf("Read(%q): %x, %d", s, d, e)
				}
			} else if e != api.ErrArg || d != (api.Digest{}) {
				t.Fatalf("Read(%q): %x, %d", s, d, e)
			}
		}
	}
}

func TestReadOfNoText(t *testing.T) {
	good := sha.Text(known([]byte("abc")))
	for _, s := range []string{"", " ", "ABC", strings.ToUpper(good), " " + good, good + " ", good + "\n", good[:63] + "\n", "0x" + good[2:], good + good, strings.Repeat("é", 32), strings.Repeat("０", 64), good[:62] + "é", strings.Repeat("g", 64), strings.Repeat("\x00", 64)} {
		if d, e := sha.Read(s); e != api.ErrArg || d != (api.Digest{}) {
			t.Errorf("Read(%q): %x, %d", s, d, e)
		}
	}
}

// P3.4

func TestPiecesAtEachPlace(t *testing.T) {
	b := row(200, 8)
	want := known(b)
	for i := range len(b) + 1 {
		for j := i; j <= len(b); j++ {
			if sha.Sum(b[:i], b[i:j], b[j:]) != want {
				t.Fatalf("rows cut at %d and %d", i, j)
			}
			if sum(t, written(t, b[:i], b[i:j], b[j:])) != want {
				t.Fatalf("Writes cut at %d and %d", i, j)
			}
		}
	}
}

func TestPiecesOfOneLength(t *testing.T) {
	b := row(1000, 9)
	want := known(b)
	for n := 1; n <= 300; n++ {
		var l [][]byte
		for at := 0; at < len(b); at += n {
			l = append(l, b[at:min(at+n, len(b))], nil)
		}
		if sha.Sum(l...) != want || sum(t, written(t, l...)) != want {
			t.Fatalf("pieces of %d bytes", n)
		}
	}
}

// P3.5

func TestBlocksGoOnFromTheState(t *testing.T) {
	for _, n := range edges {
		b := row(n, 10)
		for whole := 0; whole <= n && whole <= 64*5; whole += 64 {
			rest := joined(b[whole:], sha.Pad(uint64(n)))
			if len(rest)%64 != 0 {
				t.Fatalf("%d bytes and their padding are no whole blocks", n)
			}
			s := walked(sha.Start(), b[:whole])
			if digestOf(walked(s, rest)) != sha.Sum(b) || digestOf(walked(s, rest)) != known(b) {
				t.Fatalf("%d bytes, the state behind %d of them", n, whole)
			}
		}
	}
}

// P3.6

func TestThereAndBack(t *testing.T) {
	l := []api.Digest{{}, api.Digest(bytes.Repeat([]byte{0xff}, 32))}
	for i := range 300 {
		l = append(l, api.Digest(row(32, uint64(i))), sha.Sum(row(i, 1)))
	}
	seen := map[string]api.Digest{}
	for _, d := range l {
		s := sha.Text(d)
		if len(s) != 64 {
			t.Fatalf("Text: %q", s)
		}
		if got, e := sha.Read(s); e != api.OK || got != d {
			t.Fatalf("Read of Text of %x: %x, %d", d, got, e)
		}
		if other, ok := seen[s]; ok && other != d {
			t.Fatalf("%x and %x have one text", d, other)
		}
		seen[s] = d
	}
}

// Rules that hold everywhere

func TestArgumentsStay(t *testing.T) {
	for _, n := range edges {
		b, want := row(n, 11), row(n, 11)
		sha.Sum(b, b)
		h := written(t, b)
		sum(t, h)
		if !bytes.Equal(b, want) {
			t.Fatalf("%d bytes were changed", n)
		}
	}
	s, b := sha.Start(), [64]byte{1}
	sha.Step(s, b)
	if s != sha.Start() || b != [64]byte{1} {
		t.Error("Step changed what it was given")
	}
}

func TestBytesBehindARowStay(t *testing.T) {
	b := row(200, 12)
	sha.Sum(b[:3], b[:70])
	written(t, b[:10], b[:64])
	if !bytes.Equal(b, row(200, 12)) {
		t.Error("bytes behind the row were changed")
	}
}

func TestNothingIsKept(t *testing.T) {
	for _, n := range edges {
		b := row(n, 13)
		want := known(b)
		h := written(t, b)
		clear(b)
		if sum(t, h) != want {
			t.Fatalf("a Hash keeps the %d bytes that it was given", n)
		}
	}
}

func TestAnswersAreNew(t *testing.T) {
	p := sha.Pad(3)
	clear(p[:cap(p)])
	if !bytes.Equal(sha.Pad(3), padded(3)) {
		t.Error("Pad hands out memory that it keeps")
	}
	s := sha.Start()
	s[0], s[7] = 0, 0
	if sha.Start()[0] != 0x6a09e667 || sha.Start()[7] != 0x5be0cd19 || sha.Sum() != known(nil) {
		t.Error("Start hands out memory that it keeps")
	}
}
