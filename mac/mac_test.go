package mac_test

import (
	"bytes"
	"crypto/hmac"
	"crypto/sha256"
	"encoding/binary"
	"encoding/hex"
	"math"
	"slices"
	"strings"
	"testing"

	"saltern/api"
	"saltern/mac"
	"saltern/sha"
)

// row is n bytes without a pattern, of which none is 0.
func row(n int, seed uint64) []byte {
	b := make([]byte, n)
	x := seed
	for i := range b {
		x = x*6364136223846793005 + 1442695040888963407
		b[i] = byte(x>>56) | 1
	}
	return b
}

// keys are of the lengths around the block's and the digest's, some all 0 or all ones.
func keys() [][]byte {
	l := [][]byte{nil, {}, []byte("Jefe"), {0}, {0, 0}}
	for _, n := range []int{1, 2, 31, 32, 33, 62, 63, 64, 65, 66, 127, 128, 129, 131, 1000, api.MaxRaw} {
		l = append(l, row(n, uint64(n)), make([]byte, n), bytes.Repeat([]byte{0xff}, n))
	}
	return l
}

// texts are of the lengths around which the inner digest takes one block more.
func texts() [][]byte {
	l := [][]byte{nil, {}}
	for _, n := range []int{1, 2, 31, 32, 33, 54, 55, 56, 57, 63, 64, 65, 119, 120, 127, 128, 129, 1000} {
		l = append(l, row(n, 100+uint64(n)), make([]byte, n))
	}
	return l
}

// known is the library's MAC.
func known(key []byte, parts ...[]byte) api.Digest {
	h := hmac.New(sha256.New, key)
	for _, p := range parts {
		h.Write(p)
	}
	return api.Digest(h.Sum(nil))
}

// worded is the MAC as the chapter's words say it.
func worded(key, b []byte) api.Digest {
	if len(key) > 64 {
		d := sha256.Sum256(key)
		key = d[:]
	}
	var in, out []byte
	for i := range 64 {
		var k byte
		if i < len(key) {
			k = key[i]
		}
		in, out = append(in, k^0x36), append(out, k^0x5c)
	}
	d := sha256.Sum256(append(in, b...))
	return sha256.Sum256(append(out, d[:]...))
}

// purposeKey is a purpose's key as the chapter's words say it.
func purposeKey(key []byte, purpose string, n uint64) api.Digest {
	b := append([]byte(purpose), 0)
	return worded(key, binary.BigEndian.AppendUint64(b, n))
}

// written is a Mac to which the parts came, each by a Write.
func written(t *testing.T, key []byte, parts ...[]byte) *mac.Mac {
	t.Helper()
	m := mac.New(key)
	if m == nil {
		t.Fatal("New: nil")
	}
	for _, p := range parts {
		write(t, m, p)
	}
	return m
}

func write(t *testing.T, m *mac.Mac, b []byte) {
	t.Helper()
	if e := m.Write(b); e != api.OK {
		t.Fatalf("Write: %d", e)
	}
}

func sum(t *testing.T, m *mac.Mac) api.Digest {
	t.Helper()
	d, e := m.Sum()
	if e != api.OK {
		t.Fatalf("Sum: %d", e)
	}
	return d
}

func opened(t *testing.T, key, b []byte) []byte {
	t.Helper()
	got, e := mac.Open(key, b)
	if e != api.OK {
		t.Fatalf("Open: %d", e)
	}
	return got
}

// refused tells whether Open answers an error, and nothing beside it.
func refused(key, b []byte, want api.Errno) bool {
	got, e := mac.Open(key, b)
	return e == want && len(got) == 0
}

// known cases: RFC 4231's, with their keys and texts as hexadecimal digits.
var cases = []struct{ key, text, mac string }{
	{strings.Repeat("0b", 20), "4869205468657265", "b0344c61d8db38535ca8afceaf0bf12b881dc200c9833da726e9376c2e32cff7"},
	{"4a656665", "7768617420646f2079612077616e7420666f72206e6f7468696e673f", "5bdcc146bf60754e6a042426089575c75a003f089d2739839dec58b964ec3843"},
	{strings.Repeat("aa", 20), strings.Repeat("dd", 50), "773ea91e36800e46854db8ebd09181a72959098b3ef8c122d9635514ced565fe"},
	{"0102030405060708090a0b0c0d0e0f10111213141516171819", strings.Repeat("cd", 50), "82558a389a443c0ea4cc819899f2083a85f0faa3e578f8077a2e3ff46729665b"},
	{strings.Repeat("aa", 131), hex.EncodeToString([]byte("Test Using Larger Than Block-Size Key - Hash Key First")), "60e431591ee0b67f0d8a26aacbf5b77f8e0bc6213728c5140546040f0ee37f54"},
	{strings.Repeat("aa", 131), hex.EncodeToString([]byte("This is a test using a larger than block-size key and a larger than block-size data. The key needs to be hashed before being used by the HMAC algorithm.")), "9b09ffa71b942fcb27635fbcd5b0e944bfdc63644f0713938a7f51535c3a35e2"},
	{"", "", "b613679a0814d9ec772f95d778c35fc5ff1697c493715653c6c712144292c5ad"},
}

// P4.1

func TestKnownCases(t *testing.T) {
	for i, c := range cases {
		key, _ := hex.DecodeString(c.key)
		text, _ := hex.DecodeString(c.text)
		if s := sha.Text(mac.Sum(key, text)); s != c.mac {
			t.Errorf("%d: %s", i, s)
		}
	}
}

func TestSumIsTheMAC(t *testing.T) {
	for _, key := range keys() {
		for _, b := range texts() {
			if got := mac.Sum(key, b); got != known(key, b) || got != worded(key, b) {
				t.Fatalf("a key of %d bytes, %d bytes: %x", len(key), len(b), got)
			}
		}
	}
}

func TestSumOfALongText(t *testing.T) {
	b := row(1<<20, 3)
	if mac.Sum([]byte("key"), b) != known([]byte("key"), b) {
		t.Error("the MAC of 2^20 bytes")
	}
}

func TestSumOfNoParts(t *testing.T) {
	for _, key := range keys() {
		want := known(key)
		for i, d := range []api.Digest{mac.Sum(key), mac.Sum(key, nil), mac.Sum(key, []byte{}), mac.Sum(key, nil, []byte{}, nil), mac.Sum(key, [][]byte{}...)} {
			if d != want {
				t.Errorf("a key of %d bytes: %d: %x", len(key), i, d)
			}
		}
	}
}

func TestSumTakesPartsInTheirOrder(t *testing.T) {
	key, a, b, c := row(40, 9), row(40, 1), row(50, 2), row(60, 3)
	if mac.Sum(key, a, b, c) != known(key, a, b, c) || mac.Sum(key, c, b, a) != known(key, c, b, a) {
		t.Error("parts are not taken in their order")
	}
	if mac.Sum(key, a, b) == mac.Sum(key, b, a) {
		t.Error("the order of parts makes no difference")
	}
}

func TestSumHeedsEachByte(t *testing.T) {
	key, b := row(70, 1), row(130, 2)
	short := row(64, 3)
	seen := map[api.Digest]int{mac.Sum(key, b): 1, mac.Sum(short, b): 1}
	change := func(of []byte, d func() api.Digest) {
		for i := range of {
			of[i] ^= 1
			seen[d()]++
			of[i] ^= 1
		}
	}
	change(key, func() api.Digest { return mac.Sum(key, b) })
	change(b, func() api.Digest { return mac.Sum(key, b) })
	change(short, func() api.Digest { return mac.Sum(short, b) })
	if len(seen) != 2+len(key)+len(b)+len(short) {
		t.Errorf("%d MACs", len(seen))
	}
}

// numbers are such that each byte counts, the highest one too.
func numbers() []uint64 {
	l := []uint64{0, 1, 2, 255, 256, math.MaxUint32, math.MaxInt64, math.MaxUint64, 0x0123456789abcdef}
	for i := range 64 {
		l = append(l, 1<<i)
	}
	return l
}

// purposes are some that end in what stands behind them.
var purposes = []string{"", "frame", "mark", "\x00", "\x00\x00", "frame\x00", "frame\x00\x00\x00\x00\x00\x00\x00\x00\x01", strings.Repeat("p", 200), "\xff\xfe", "é"}

func TestDeriveIsThePurposesKey(t *testing.T) {
	for _, key := range keys() {
		for _, p := range purposes {
			for _, n := range []uint64{0, 1, 0x0123456789abcdef, math.MaxUint64} {
				if got := mac.Derive(key, p, n); got != purposeKey(key, p, n) {
					t.Fatalf("a key of %d bytes, %q, %d: %x", len(key), p, n, got)
				}
			}
		}
	}
}

func TestDeriveHeedsEachByteOfTheNumber(t *testing.T) {
	for _, n := range numbers() {
		if got := mac.Derive([]byte("key"), "frame", n); got != purposeKey([]byte("key"), "frame", n) {
			t.Errorf("%d: %x", n, got)
		}
	}
	if mac.Derive(nil, "", 1<<56) != known(nil, []byte{0, 1, 0, 0, 0, 0, 0, 0, 0}) {
		t.Error("the highest byte does not stand first")
	}
}

func TestDerivedKeysDiffer(t *testing.T) {
	seen := make(map[api.Digest]int)
	all := 0
	for _, key := range []string{"", "key", "kex"} {
		for _, p := range purposes {
			for _, n := range slices.Compact(slices.Sorted(slices.Values(numbers()))) {
				seen[mac.Derive([]byte(key), p, n)]++
				all++
			}
		}
	}
	if len(seen) != all {
		t.Errorf("%d keys of %d purposes", len(seen), all)
	}
}

func TestSameHeedsAllBytes(t *testing.T) {
	a := api.Digest(row(32, 5))
	if !mac.Same(a, a) || !mac.Same(api.Digest{}, api.Digest{}) {
		t.Error("one is not the same as itself")
	}
	for i := range a {
		for bit := range 8 {
			b := a
			b[i] ^= 1 << bit
			if mac.Same(a, b) || mac.Same(b, a) {
				t.Errorf("byte %d, bit %d", i, bit)
			}
		}
	}
	b := a
	b[3] ^= 7
	b[20] ^= 7
	if mac.Same(a, b) {
		t.Error("two bytes with the same change")
	}
}

// P4.2

func TestSealIsTheBytesAndTheirMAC(t *testing.T) {
	for _, key := range keys() {
		for _, b := range texts() {
			d := known(key, b)
			if got := mac.Seal(key, b); !bytes.Equal(got, append(slices.Clone(b), d[:]...)) {
				t.Fatalf("a key of %d bytes, %d bytes: %x", len(key), len(b), got)
			}
		}
	}
}

func TestOpenIsTheBytesAhead(t *testing.T) {
	for _, key := range keys() {
		for _, b := range texts() {
			d := worded(key, b)
			if got := opened(t, key, append(slices.Clone(b), d[:]...)); !bytes.Equal(got, b) {
				t.Fatalf("a key of %d bytes, %d bytes: %x", len(key), len(b), got)
			}
		}
	}
}

func TestOpenOfJustAMAC(t *testing.T) {
	for _, key := range keys() {
		d := known(key)
		if got, e := mac.Open(key, d[:]); len(got) != 0 || e != api.OK {
			t.Errorf("a key of %d bytes: %x, %d", len(key), got, e)
		}
	}
	if !refused([]byte("key"), make([]byte, 32), api.ErrMac) {
		t.Error("32 bytes that are no MAC")
	}
}

func TestOpenOfFewerBytes(t *testing.T) {
	d := known([]byte("key"))
	for n := range 32 {
		if !refused([]byte("key"), d[:n], api.ErrShort) || !refused([]byte("key"), make([]byte, n), api.ErrShort) {
			t.Errorf("%d bytes", n)
		}
	}
	if !refused(nil, nil, api.ErrShort) || !refused([]byte("key"), d[1:], api.ErrShort) {
		t.Error("no bytes, or all but the first")
	}
}

func TestOpenOfBytesCut(t *testing.T) {
	s := mac.Seal([]byte("key"), row(40, 1))
	for n := 32; n < len(s); n++ {
		if !refused([]byte("key"), s[:n], api.ErrMac) || !refused([]byte("key"), s[len(s)-n:], api.ErrMac) {
			t.Errorf("%d of %d bytes", n, len(s))
		}
	}
	if !refused([]byte("key"), append(s, 0), api.ErrMac) {
		t.Error("one more byte")
	}
}

func TestOpenWithChangedBytes(t *testing.T) {
	key := []byte("key")
	for _, n := range []int{0, 1, 5, 64, 100} {
		s := mac.Seal(key, row(n, 2))
		for i := range s {
			for _, x := range []byte{1, 0x80, 0xff} {
				s[i] ^= x
				if !refused(key, s, api.ErrMac) {
					t.Errorf("%d bytes, byte %d", n, i)
				}
				s[i] ^= x
			}
		}
		if !bytes.Equal(opened(t, key, s), row(n, 2)) {
			t.Errorf("%d bytes as they were", n)
		}
	}
}

func TestOpenWithAnotherKey(t *testing.T) {
	for _, key := range [][]byte{nil, []byte("key"), row(63, 1), row(64, 1), row(65, 1), row(200, 1)} {
		s := mac.Seal(key, []byte("hello"))
		for _, other := range [][]byte{[]byte("kex"), []byte("ke"), append(slices.Clone(key), 1), append([]byte{1}, key...)} {
			if !refused(other, s, api.ErrMac) {
				t.Errorf("keys of %d and %d bytes", len(key), len(other))
			}
		}
	}
}

func TestOpenTakesTheMACAtTheEnd(t *testing.T) {
	key, b := []byte("key"), []byte("hello")
	d := known(key, b)
	if !refused(key, append(d[:], b...), api.ErrMac) {
		t.Error("a MAC ahead of the bytes")
	}
}

// P4.3

func TestMacOfNone(t *testing.T) {
	for _, key := range keys() {
		if d := sum(t, mac.New(key)); d != known(key) {
			t.Errorf("a key of %d bytes: %x", len(key), d)
		}
	}
}

func TestWriteComesBehind(t *testing.T) {
	for _, key := range keys() {
		for _, b := range texts() {
			if d := sum(t, written(t, key, b, []byte("and more"), b)); d != known(key, b, []byte("and more"), b) {
				t.Fatalf("a key of %d bytes, %d bytes: %x", len(key), len(b), d)
			}
		}
	}
}

func TestEmptyWritesChangeNothing(t *testing.T) {
	for _, b := range texts() {
		if d := sum(t, written(t, []byte("key"), nil, b, []byte{}, nil)); d != known([]byte("key"), b) {
			t.Errorf("%d bytes: %x", len(b), d)
		}
	}
}

func TestSumLeavesRoomForMore(t *testing.T) {
	for _, key := range [][]byte{nil, []byte("key"), row(64, 1), row(65, 1)} {
		m := mac.New(key)
		var all []byte
		for i := range 200 {
			if sum(t, m) != known(key, all) || sum(t, m) != known(key, all) {
				t.Fatalf("behind Write %d", i)
			}
			more := row(i%67, uint64(i))
			write(t, m, more)
			all = append(all, more...)
		}
	}
}

func TestMacsAreOnTheirOwn(t *testing.T) {
	a, b := mac.New([]byte("key")), mac.New([]byte("key"))
	write(t, a, []byte("a"))
	write(t, b, []byte("b"))
	write(t, a, []byte("c"))
	if sum(t, a) != known([]byte("key"), []byte("ac")) || sum(t, b) != known([]byte("key"), []byte("b")) {
		t.Error("two of one key")
	}
}

func TestNobodysMac(t *testing.T) {
	for i, m := range []*mac.Mac{nil, {}, new(mac.Mac)} {
		for _, b := range [][]byte{nil, {}, []byte("bytes")} {
			if e := m.Write(b); e != api.ErrNil {
				t.Errorf("%d: Write: %d", i, e)
			}
			if d, e := m.Sum(); d != (api.Digest{}) || e != api.ErrNil {
				t.Errorf("%d: Sum: %x, %d", i, d, e)
			}
		}
	}
}

// P4.4

func TestPieces(t *testing.T) {
	key, b := row(20, 1), row(200, 2)
	want := known(key, b)
	for i := range len(b) + 1 {
		for _, j := range []int{i, i + 1, i + 63, i + 64, len(b)} {
			j = min(j, len(b))
			if mac.Sum(key, b[:i], b[i:j], b[j:]) != want || sum(t, written(t, key, b[:i], b[i:j], b[j:])) != want {
				t.Fatalf("cut at %d and %d", i, j)
			}
		}
	}
}

func TestPiecesOfOneSize(t *testing.T) {
	key, b := row(70, 1), row(300, 3)
	want := known(key, b)
	for n := 1; n <= len(b); n++ {
		parts := slices.Collect(slices.Chunk(b, n))
		if mac.Sum(key, parts...) != want || sum(t, written(t, key, parts...)) != want {
			t.Fatalf("pieces of %d bytes", n)
		}
	}
}

// P4.5

func TestAByte0BehindAKey(t *testing.T) {
	b := []byte("hello")
	for n := range 64 {
		key := row(n, uint64(n))
		want := known(key, b)
		for len(key) < 64 {
			key = append(key, 0)
			if mac.Sum(key, b) != want || sum(t, written(t, key, b)) != want {
				t.Fatalf("%d bytes, %d with those behind", n, len(key))
			}
			if !bytes.Equal(mac.Seal(key, b), mac.Seal(key[:n], b)) || mac.Derive(key, "p", 1) != mac.Derive(key[:n], "p", 1) {
				t.Fatalf("%d bytes, %d with those behind: Seal or Derive", n, len(key))
			}
		}
		if mac.Sum(append(key, 0), b) == want {
			t.Errorf("%d bytes: 65 seal like 64", n)
		}
	}
}

func TestALongerKeyAndItsDigest(t *testing.T) {
	b := []byte("hello")
	for _, n := range []int{65, 66, 96, 127, 128, 129, 1000} {
		for _, key := range [][]byte{row(n, uint64(n)), make([]byte, n)} {
			d := sha.Sum(key)
			if mac.Sum(key, b) != mac.Sum(d[:], b) || sum(t, written(t, key, b)) != sum(t, written(t, d[:], b)) {
				t.Errorf("%d bytes", n)
			}
			if !bytes.Equal(mac.Seal(key, b), mac.Seal(d[:], b)) || mac.Derive(key, "p", 1) != mac.Derive(d[:], "p", 1) {
				t.Errorf("%d bytes: Seal or Derive", n)
			}
		}
	}
	for _, n := range []int{33, 63, 64} {
		d := sha.Sum(row(n, 1))
		if mac.Sum(row(n, 1), b) == mac.Sum(d[:], b) {
			t.Errorf("%d bytes seal as their digest does", n)
		}
	}
}

// P4.6

func TestThereAndBack(t *testing.T) {
	for _, key := range keys() {
		for _, b := range texts() {
			if got := opened(t, key, mac.Seal(key, b)); !bytes.Equal(got, b) {
				t.Fatalf("a key of %d bytes, %d bytes: %x", len(key), len(b), got)
			}
		}
	}
}

func TestThereAndBackWithAKeyThatSealsAlike(t *testing.T) {
	long := row(100, 1)
	d := sha.Sum(long)
	for _, b := range texts() {
		for _, pair := range [][2][]byte{{row(63, 2), append(row(63, 2), 0)}, {nil, make([]byte, 64)}, {long, d[:]}} {
			if !bytes.Equal(opened(t, pair[0], mac.Seal(pair[1], b)), b) || !bytes.Equal(opened(t, pair[1], mac.Seal(pair[0], b)), b) {
				t.Errorf("keys of %d and %d bytes, %d bytes", len(pair[0]), len(pair[1]), len(b))
			}
		}
	}
}

func TestAnyOtherMACIsTold(t *testing.T) {
	for _, key := range [][]byte{nil, []byte("key"), row(64, 1), row(65, 1)} {
		for _, b := range [][]byte{nil, []byte("hello")} {
			s := mac.Seal(key, b)
			for i := len(b); i < len(s); i++ {
				for x := 1; x < 256; x++ {
					s[i] ^= byte(x)
					if !refused(key, s, api.ErrMac) {
						t.Fatalf("byte %d of the MAC, xored with %d", i-len(b), x)
					}
					s[i] ^= byte(x)
				}
			}
			for _, fill := range []byte{0, 0xff} {
				copy(s[len(b):], bytes.Repeat([]byte{fill}, 32))
				if !refused(key, s, api.ErrMac) {
					t.Errorf("a MAC of bytes %d", fill)
				}
			}
		}
	}
}

// What holds everywhere.

func TestArgumentsStayAsTheyWere(t *testing.T) {
	for _, n := range []int{0, 10, 64, 65, 200} {
		// Room behind the bytes: an append to what was handed in would show there.
		room := row(n+300, 1)
		key := slices.Clone(room)[:n]
		b := slices.Clone(room)[:n]
		parts := make([][]byte, 2, 9)
		parts[0], parts[1] = b, b
		mac.Sum(key, parts...)
		mac.Derive(key, "p", 1)
		s := mac.Seal(key, b)
		was := slices.Clone(s)
		mac.Open(key, s)
		mac.Open(key, b)
		m := mac.New(key)
		m.Write(b)
		m.Sum()
		if !bytes.Equal(key[:n+300], room) || !bytes.Equal(b[:n+300], room) || !bytes.Equal(s, was) {
			t.Errorf("%d bytes: changed", n)
		}
		if len(parts[:9][2]) != 0 || !bytes.Equal(parts[0], room[:n]) || !bytes.Equal(parts[1], room[:n]) {
			t.Errorf("%d bytes: the parts changed", n)
		}
	}
}

func TestNothingIsKept(t *testing.T) {
	for _, n := range []int{5, 64, 65} {
		key, b := row(n, 1), row(n, 2)
		m := written(t, key, b)
		clear(key)
		clear(b)
		write(t, m, []byte("more"))
		if sum(t, m) != known(row(n, 1), row(n, 2), []byte("more")) {
			t.Errorf("%d bytes", n)
		}
	}
}

func TestAnswersAreNew(t *testing.T) {
	key, b := []byte("key"), row(20, 1)
	s := mac.Seal(key, b)
	again := mac.Seal(key, b)
	o := opened(t, key, s)
	clear(s)
	if !bytes.Equal(o, row(20, 1)) || !bytes.Equal(b, row(20, 1)) || !bytes.Equal(opened(t, key, again), b) {
		t.Error("an answer shares memory")
	}
	clear(o)
	if !bytes.Equal(opened(t, key, again), b) {
		t.Error("an answer shares memory with another")
	}
	o = append(opened(t, key, again), 1, 2, 3)
	if len(o) != 23 || !bytes.Equal(opened(t, key, again), b) {
		t.Error("more behind an answer changes what was sealed")
	}
}
