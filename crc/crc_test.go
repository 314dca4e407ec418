package crc_test

import (
	"bytes"
	"hash/crc32"
	"math"
	"testing"

	"saltern/api"
	"saltern/crc"
)

// noCounts lie beside the bounds of n, or have the bits of one within them cut off or turned round.
var noCounts = []int{math.MinInt, -api.MaxRaw - 1, -api.MaxRaw, -2, -1, api.MaxRaw + 1, api.MaxRaw + 2, 2 * api.MaxRaw, 1 << 31, 1<<32 + 1, math.MaxInt}

// counts lie within the bounds, at their ends and on both sides of each power of 2.
func counts() []int {
	l := []int{0, api.MaxRaw}
	for p := 1; p < api.MaxRaw; p *= 2 {
		l = append(l, p, p+1, 2*p-1)
	}
	return append(l, 1000, 4095, 40000, 54321)
}

// sums are the edges and both sides of each power of 2, and some without a pattern.
func sums() []uint32 {
	l := []uint32{0, math.MaxUint32, 0x82f63b78, 0x7d09c487, 0xdeadbeef, 0x80000001}
	for i := range 32 {
		p := uint32(1) << i
		l = append(l, p-1, p, ^p)
	}
	x := uint64(7)
	for range 50 {
		x = x*6364136223846793005 + 1442695040888963407
		l = append(l, uint32(x>>32))
	}
	return l
}

// row is n bytes without a pattern.
func row(n int, seed uint64) []byte {
	b := make([]byte, n)
	x := seed
	for i := range b {
		x = x*6364136223846793005 + 1442695040888963407
		b[i] = byte(x >> 56)
	}
	return b
}

// rows are of all small lengths, some long ones, and such as are all 0 or all ones.
func rows() [][]byte {
	l := [][]byte{nil, {}, {0}, {0xff}, {0, 0, 0, 0}, {0xff, 0xff, 0xff, 0xff}, make([]byte, 513), bytes.Repeat([]byte{0xff}, 513)}
	for n := range 40 {
		l = append(l, row(n, uint64(n)))
	}
	for _, n := range []int{255, 256, 257, 4096, api.MaxRaw - 1, api.MaxRaw, api.MaxRaw + 1} {
		l = append(l, row(n, uint64(n)))
	}
	return l
}

// byteIn goes bit by bit, as the chapter's words say it.
func byteIn(r uint32, b byte) uint32 {
	for i := range 8 {
		x := r&1 ^ uint32(b>>i&1)
		r >>= 1
		if x == 1 {
			r ^= 0x82f63b78
		}
	}
	return r
}

// summed is the sum of b behind bytes that have a sum, as the chapter's words say it.
func summed(sum uint32, b []byte) uint32 {
	r := ^sum
	for _, c := range b {
		r = byteIn(r, c)
	}
	return ^r
}

// known is the library's sum.
func known(b []byte) uint32 {
	return crc32.Checksum(b, crc32.MakeTable(crc32.Castagnoli))
}

// P2.1

func TestExamples(t *testing.T) {
	if s := crc.Of([]byte("123456789")); s != 0xe3069283 {
		t.Errorf("Of 123456789: %#08x", s)
	}
	if s := crc.Entry(1); s != 0xf26b8303 {
		t.Errorf("Entry(1): %#08x", s)
	}
	if s := crc.Of(make([]byte, 4)); s != 0x48674bc7 {
		t.Errorf("Of four bytes 0: %#08x", s)
	}
}

func TestEntryOfEachByte(t *testing.T) {
	table := crc32.MakeTable(crc32.Castagnoli)
	for i := range 256 {
		got := crc.Entry(byte(i))
		if want := byteIn(0, byte(i)); got != want || got != table[i] {
			t.Errorf("Entry(%d): %#08x, want %#08x", i, got, want)
		}
	}
	if s := crc.Entry(0); s != 0 {
		t.Errorf("Entry(0): %#08x", s)
	}
}

func TestAddIsTheSumOfMore(t *testing.T) {
	table := crc32.MakeTable(crc32.Castagnoli)
	for _, b := range rows() {
		if len(b) > 300 {
			continue
		}
		for _, s := range sums() {
			got := crc.Add(s, b)
			if want := summed(s, b); got != want || got != crc32.Update(s, table, b) {
				t.Fatalf("Add(%#08x, %d bytes): %#08x, want %#08x", s, len(b), got, want)
			}
		}
	}
}

func TestAddOfNothingStays(t *testing.T) {
	for _, s := range sums() {
		if crc.Add(s, nil) != s || crc.Add(s, []byte{}) != s {
			t.Errorf("Add(%#08x) of nothing", s)
		}
	}
}

func TestOfOnePart(t *testing.T) {
	for _, b := range rows() {
		got := crc.Of(b)
		if got != summed(0, b) || got != known(b) || got != crc.Add(0, b) {
			t.Errorf("Of %d bytes: %#08x, want %#08x", len(b), got, known(b))
		}
	}
}

func TestOfNothing(t *testing.T) {
	if s := crc.Of(); s != 0 {
		t.Errorf("no part: %#08x", s)
	}
	if s := crc.Of([][]byte{}...); s != 0 {
		t.Errorf("an empty list: %#08x", s)
	}
	if s := crc.Of(nil, []byte{}, nil); s != 0 {
		t.Errorf("empty parts: %#08x", s)
	}
}

func TestSumsAtTheEdges(t *testing.T) {
	// Four bytes of all ones leave an empty register, which bytes 0 do not change.
	ones := []byte{0xff, 0xff, 0xff, 0xff}
	if s := crc.Of(ones); s != math.MaxUint32 {
		t.Errorf("four bytes of all ones: %#08x", s)
	}
	if s := crc.Of(ones, make([]byte, 1000)); s != math.MaxUint32 {
		t.Errorf("bytes 0 behind an empty register: %#08x", s)
	}
	if s := crc.Add(math.MaxUint32, []byte{1}); s != ^crc.Entry(1) {
		t.Errorf("1 into an empty register: %#08x", s)
	}
	// What goes on behind a sum of 0 goes on as from the beginning: the register is of all ones.
	full := crc.Forge(crc.Of(ones), 0)
	if s := crc.Of(ones, full[:], []byte("123456789")); s != 0xe3069283 {
		t.Errorf("behind a register of all ones: %#08x", s)
	}
}

// P2.2

func TestZerosAreBytes(t *testing.T) {
	zeros := make([]byte, api.MaxRaw)
	for _, n := range counts() {
		for _, s := range []uint32{0, 1, 0x80000000, 0xdeadbeef, math.MaxUint32} {
			got, e := crc.Zeros(s, n)
			if want := summed(s, zeros[:n]); got != want || e != api.OK {
				t.Errorf("Zeros(%#08x, %d): %#08x, %v, want %#08x", s, n, got, e, want)
			}
		}
	}
}

func TestZerosOfEachSum(t *testing.T) {
	for _, s := range sums() {
		for n := range 10 {
			got, e := crc.Zeros(s, n)
			if want := summed(s, make([]byte, n)); got != want || e != api.OK {
				t.Errorf("Zeros(%#08x, %d): %#08x, %v, want %#08x", s, n, got, e, want)
			}
		}
	}
}

func TestNoZeros(t *testing.T) {
	for _, s := range sums() {
		if got, e := crc.Zeros(s, 0); got != s || e != api.OK {
			t.Errorf("Zeros(%#08x, 0): %#08x, %v", s, got, e)
		}
	}
}

func TestZerosBehindAnEmptyRegister(t *testing.T) {
	for _, n := range counts() {
		if got, e := crc.Zeros(math.MaxUint32, n); got != math.MaxUint32 || e != api.OK {
			t.Errorf("Zeros(%d): %#08x, %v", n, got, e)
		}
	}
}

func TestCountsBeyondBounds(t *testing.T) {
	for _, n := range noCounts {
		for _, s := range []uint32{0, 0xdeadbeef, math.MaxUint32} {
			if got, e := crc.Zeros(s, n); got != 0 || e != api.ErrArg {
				t.Errorf("Zeros(%#08x, %d): %#08x, %v", s, n, got, e)
			}
			if got, e := crc.Cat(s, ^s, n); got != 0 || e != api.ErrArg {
				t.Errorf("Cat(%#08x, %#08x, %d): %#08x, %v", s, ^s, n, got, e)
			}
		}
	}
}

func TestCatBehindNothing(t *testing.T) {
	for _, b := range rows() {
		if len(b) > api.MaxRaw {
			continue
		}
		if got, e := crc.Cat(0, known(b), len(b)); got != known(b) || e != api.OK {
			t.Errorf("nothing ahead of %d bytes: %#08x, %v", len(b), got, e)
		}
	}
	for _, s := range sums() {
		if got, e := crc.Cat(s, 0, 0); got != s || e != api.OK {
			t.Errorf("nothing behind %#08x: %#08x, %v", s, got, e)
		}
	}
}

// P2.3

func TestForgeMakesTheSum(t *testing.T) {
	for _, s := range sums() {
		for _, want := range sums() {
			f := crc.Forge(s, want)
			if got := summed(s, f[:]); got != want {
				t.Fatalf("Forge(%#08x, %#08x): % x makes %#08x", s, want, f, got)
			}
		}
	}
}

func TestForgeFindsWhatWasThere(t *testing.T) {
	for _, s := range sums() {
		for seed := range uint64(20) {
			b := [4]byte(row(4, seed))
			if f := crc.Forge(s, summed(s, b[:])); f != b {
				t.Errorf("% x behind %#08x: % x", b, s, f)
			}
		}
	}
}

func TestForgeAtTheEdges(t *testing.T) {
	for _, c := range []struct {
		sum, want uint32
		f         [4]byte
	}{
		{0, math.MaxUint32, [4]byte{0xff, 0xff, 0xff, 0xff}},
		{math.MaxUint32, math.MaxUint32, [4]byte{}},
		{0, 0x48674bc7, [4]byte{}},
	} {
		if f := crc.Forge(c.sum, c.want); f != c.f {
			t.Errorf("Forge(%#08x, %#08x): % x, want % x", c.sum, c.want, f, c.f)
		}
	}
}

func TestBackIsTheSumAhead(t *testing.T) {
	for _, b := range rows() {
		if len(b) > 300 {
			continue
		}
		for _, s := range sums() {
			if got := crc.Back(summed(s, b), b); got != s {
				t.Fatalf("%d bytes behind %#08x: %#08x", len(b), s, got)
			}
			if got := summed(crc.Back(s, b), b); got != s {
				t.Fatalf("%d bytes ahead of %#08x: %#08x", len(b), s, got)
			}
		}
	}
}

func TestBackOfAWholeRow(t *testing.T) {
	for _, b := range rows() {
		if got := crc.Back(known(b), b); got != 0 {
			t.Errorf("ahead of all %d bytes: %#08x", len(b), got)
		}
	}
	for _, s := range sums() {
		if crc.Back(s, nil) != s || crc.Back(s, []byte{}) != s {
			t.Errorf("ahead of nothing: %#08x", s)
		}
	}
}

// P2.4

func TestCutAnywhere(t *testing.T) {
	b := row(60, 4)
	want := known(b)
	for i := range len(b) + 1 {
		for j := i; j <= len(b); j++ {
			if got := crc.Of(b[:i], b[i:j], b[j:]); got != want {
				t.Fatalf("cut at %d and %d: %#08x, want %#08x", i, j, got, want)
			}
			if got := crc.Add(crc.Add(crc.Of(b[:i]), b[i:j]), b[j:]); got != want {
				t.Fatalf("added at %d and %d: %#08x, want %#08x", i, j, got, want)
			}
		}
	}
}

func TestManyPieces(t *testing.T) {
	b := row(1000, 5)
	want := known(b)
	for size := 1; size <= len(b); size += 7 {
		parts := [][]byte{nil}
		for i := 0; i < len(b); i += size {
			parts = append(parts, b[i:min(i+size, len(b))], []byte{})
		}
		if got := crc.Of(parts...); got != want {
			t.Errorf("pieces of %d: %#08x, want %#08x", size, got, want)
		}
	}
}

func TestOrderOfPartsCounts(t *testing.T) {
	a, b := []byte("ab"), []byte("c")
	if crc.Of(a, b) == crc.Of(b, a) {
		t.Error("parts may be changed round")
	}
}

// P2.5

func TestJoined(t *testing.T) {
	for _, a := range rows() {
		for _, b := range rows() {
			if len(b) > api.MaxRaw || len(a) > 300 && len(b) > 300 {
				continue
			}
			got, e := crc.Cat(crc.Of(a), crc.Of(b), len(b))
			if want := crc.Of(a, b); got != want || e != api.OK || want != crc32.Update(known(a), crc32.MakeTable(crc32.Castagnoli), b) {
				t.Fatalf("%d and %d bytes: %#08x, %v, want %#08x", len(a), len(b), got, e, want)
			}
		}
	}
}

func TestJoinedAtEachCount(t *testing.T) {
	a := []byte("a beginning")
	for _, n := range counts() {
		b := row(n, 6)
		got, e := crc.Cat(crc.Of(a), crc.Of(b), n)
		if want := known(append(bytes.Clone(a), b...)); got != want || e != api.OK {
			t.Errorf("%d bytes behind: %#08x, %v, want %#08x", n, got, e, want)
		}
	}
}

func TestJoinedInAnyOrder(t *testing.T) {
	a, b, c := row(100, 1), row(77, 2), row(3, 3)
	ab, _ := crc.Cat(crc.Of(a), crc.Of(b), len(b))
	left, _ := crc.Cat(ab, crc.Of(c), len(c))
	bc, _ := crc.Cat(crc.Of(b), crc.Of(c), len(c))
	right, _ := crc.Cat(crc.Of(a), bc, len(b)+len(c))
	if want := crc.Of(a, b, c); left != want || right != want {
		t.Errorf("%#08x and %#08x, want %#08x", left, right, want)
	}
}

// P2.6

// rank is how many of some words are independent under xor.
func rank(l []uint32) int {
	n := 0
	for bit := range 32 {
		for i := n; i < len(l); i++ {
			if l[i]>>bit&1 == 0 {
				continue
			}
			l[n], l[i] = l[i], l[n]
			for j := range l {
				if j != n && l[j]>>bit&1 == 1 {
					l[j] ^= l[n]
				}
			}
			n++
			break
		}
	}
	return n
}

func TestChangesWithinFourBytesAreSeen(t *testing.T) {
	for _, n := range []int{4, 5, 8, 100, 600} {
		for _, at := range []int{0, 1, (n - 4) / 2, n - 4} {
			if at+4 > n {
				continue
			}
			b := row(n, uint64(n))
			sum := crc.Of(b)
			var turned []uint32
			for i := range 32 {
				b[at+i/8] ^= 1 << (i % 8)
				turned = append(turned, crc.Of(b)^sum)
				b[at+i/8] ^= 1 << (i % 8)
			}
			// What bits change is xored: changes of any of them together are seen if the 32 are independent.
			if r := rank(turned); r != 32 {
				t.Errorf("4 of %d bytes from %d on: only %d bits are seen", n, at, r)
			}
		}
	}
}

func TestChangesAreXored(t *testing.T) {
	b, c, d := row(200, 1), row(200, 2), row(200, 3)
	x := make([]byte, 200)
	for i := range x {
		x[i] = b[i] ^ c[i] ^ d[i]
	}
	if crc.Of(x) != crc.Of(b)^crc.Of(c)^crc.Of(d) {
		t.Error("a sum of changes is not that of the sums")
	}
}

func TestEachChangeOfTwoBytes(t *testing.T) {
	for _, n := range []int{2, 3, 9} {
		b := row(n, 8)
		seen := make(map[uint32]int)
		for i := range 1 << 16 {
			b[n-2], b[n-1] = byte(i), byte(i>>8)
			s := crc.Of(b)
			if j, ok := seen[s]; ok {
				t.Fatalf("%d bytes: %#04x and %#04x have the sum %#08x", n, j, i, s)
			}
			seen[s] = i
		}
	}
}

func TestShortRowsHaveSumsOfTheirOwn(t *testing.T) {
	seen := make(map[uint32]bool)
	for i := range 256 {
		seen[crc.Of([]byte{byte(i)})] = true
	}
	if len(seen) != 256 {
		t.Errorf("%d sums of rows of one byte", len(seen))
	}
}

// P2.7

func TestAnySumBehindAnyBytes(t *testing.T) {
	for _, b := range rows() {
		for _, want := range []uint32{0, 1, 0x80000000, 0xdeadbeef, math.MaxUint32, crc.Of(b)} {
			f := crc.Forge(crc.Of(b), want)
			if got := crc.Of(b, f[:]); got != want {
				t.Errorf("behind %d bytes: %#08x, want %#08x", len(b), got, want)
			}
			if got := known(append(bytes.Clone(b), f[:]...)); got != want {
				t.Errorf("behind %d bytes, by the library: %#08x, want %#08x", len(b), got, want)
			}
		}
	}
}

func TestForgedInTheMiddle(t *testing.T) {
	ahead, behind := row(50, 1), row(70, 2)
	for _, want := range sums() {
		f := crc.Forge(crc.Of(ahead), crc.Back(want, behind))
		if got := crc.Of(ahead, f[:], behind); got != want {
			t.Errorf("%#08x, want %#08x", got, want)
		}
	}
}

// Rules 4 and 5

func TestArgumentsStay(t *testing.T) {
	b := row(300, 9)
	kept := bytes.Clone(b)
	parts := [][]byte{b[:100], nil, b[100:]}
	crc.Add(7, b)
	crc.Of(parts...)
	crc.Back(7, b)
	if !bytes.Equal(b, kept) {
		t.Error("bytes that were handed in are changed")
	}
	if len(parts[0]) != 100 || parts[1] != nil || len(parts[2]) != 200 || &parts[0][0] != &b[0] || &parts[2][0] != &b[100] {
		t.Error("parts that were handed in are changed")
	}
}

func TestNothingIsKept(t *testing.T) {
	b := row(40, 10)
	first := crc.Of(b)
	f := crc.Forge(first, 5)
	crc.Add(3, row(99, 11))
	crc.Back(3, row(99, 11))
	if crc.Of(b) != first || crc.Forge(first, 5) != f {
		t.Error("a call's answer hangs on an earlier call")
	}
}
