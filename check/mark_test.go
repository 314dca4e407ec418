package check_test

import (
	"bytes"
	"crypto/sha256"
	"slices"
	"testing"

	"saltern/api"
	"saltern/check"
)

// makes asks for Make, and of what it tells for Check, Sealed, Bytes and Parse.
func makes(t *testing.T, key []byte, site int, h api.Head) {
	t.Helper()
	was := bytes.Clone(key)
	m, e := check.Make(key, site, h)
	if want := wordedMark(key, site, h); m != want || e != api.OK {
		t.Errorf("Make of %d, %v with %d bytes: %v, %d, not %v", site, h, len(key), m, e, want)
	}
	if !check.Sealed(key, m) {
		t.Errorf("Make of %d, %v with %d bytes: not sealed", site, h, len(key))
	}
	tellsOf(t, m)
	if !bytes.Equal(key, was) {
		t.Error("the key changed")
	}
}

// tellsOf asks for Check, Bytes and Parse of a mark that may be, sealed or not.
func tellsOf(t *testing.T, m api.Mark) {
	t.Helper()
	if e := check.Check(m); e != api.OK {
		t.Errorf("Check of %v: %d", m, e)
	}
	b, e := check.Bytes(m)
	if !bytes.Equal(b, wordedBytes(m)) || e != api.OK {
		t.Errorf("Bytes of %v: %x, %d, not %x", m, b, e, wordedBytes(m))
	}
	if x, e := check.Parse(b); x != m || e != api.OK {
		t.Errorf("Parse of %x: %v, %d, not %v", b, x, e, m)
	}
}

// refuses asks of a mark that may not be for all that tells of one.
func refuses(t *testing.T, m api.Mark) {
	t.Helper()
	for _, key := range keys() {
		if x, e := check.Make(key, m.Site, m.Head); x != (api.Mark{}) || e != api.ErrMark {
			t.Errorf("Make of %v: %v, %d", m, x, e)
		}
		if check.Sealed(key, m) || check.Sealed(key, wordedMark(key, m.Site, m.Head)) {
			t.Errorf("%v is sealed", m)
		}
	}
	if e := check.Check(m); e != api.ErrMark {
		t.Errorf("Check of %v: %d", m, e)
	}
	if b, e := check.Bytes(m); b != nil || e != api.ErrMark {
		t.Errorf("Bytes of %v: %x, %d", m, b, e)
	}
}

// P16.1, P16.4, P16.7: heads at each edge, both sites, all lengths of keys.
func TestMake(t *testing.T) {
	for _, key := range keys() {
		for _, h := range goodHeads() {
			makes(t, key, 0, h)
			makes(t, key, 1, h)
		}
	}
}

// P16.1, P16.7: of any Mac.
func TestMarksOfAnyMac(t *testing.T) {
	for _, h := range goodHeads() {
		for site := range 2 {
			for _, d := range []api.Digest{{}, {1}, {31: 1}, {0: 'M', 31: 255}} {
				tellsOf(t, api.Mark{Site: site, Head: h, Mac: d})
			}
		}
	}
}

// P16.1, P16.4, P16.7: of any heads.
func TestMakeOfAnyHeads(t *testing.T) {
	c := chance(1)
	for range 2000 {
		makes(t, keyOf(c.below(100)), c.below(2), c.head())
	}
}

// P16.1: two marks, reckoned elsewhere.
func TestTheBytesOfTwoMarks(t *testing.T) {
	for _, c := range []struct {
		key  string
		site int
		h    api.Head
		want string
	}{
		{"key", 0, api.Head{Seq: 300, Epoch: 2}, "4d 00 ac02 02" + zeros + "b1802e5aeda8f4f303fa008228c4d75276cf41741ee4fc858d3db35b6431c416"},
		{"", 1, api.Head{}, "4d 01 00 00" + zeros + "65b161f2e3ea8cc5495546dc0475d83f21820480aa4d4467e85b1a984ae88193"},
	} {
		m, e := check.Make([]byte(c.key), c.site, c.h)
		if e != api.OK {
			t.Error(e)
		}
		if b, e := check.Bytes(m); !bytes.Equal(b, raw(t, c.want)) || e != api.OK {
			t.Errorf("%x, %d, not %s", b, e, c.want)
		}
	}
}

// P16.1: heads and sites that may not be, one of them or both.
func TestMarksThatMayNotBe(t *testing.T) {
	for _, d := range []api.Digest{{}, {5}} {
		for _, h := range badHeads() {
			for _, site := range append(badSites(), 0, 1) {
				refuses(t, api.Mark{Site: site, Head: h, Mac: d})
			}
		}
		for _, site := range badSites() {
			for _, h := range goodHeads() {
				refuses(t, api.Mark{Site: site, Head: h, Mac: d})
			}
		}
	}
}

// P16.1, P16.4: each bit of the Mac counts.
func TestSealedWithAnotherMac(t *testing.T) {
	key := keyOf(20)
	for _, h := range []api.Head{{}, {Seq: 1, Epoch: 1, Chain: api.Digest{9}}, {Seq: 1 << 30, Epoch: 1 << 30}} {
		for site := range 2 {
			m := wordedMark(key, site, h)
			for bit := range 8 * len(m.Mac) {
				other := m
				other.Mac[bit/8] ^= 1 << (bit % 8)
				if check.Sealed(key, other) {
					t.Errorf("%v: sealed with bit %d turned", m, bit)
				}
			}
			m.Mac = api.Digest{}
			if check.Sealed(key, m) {
				t.Errorf("%v: sealed by zeros", m)
			}
		}
	}
}

// P16.1: the Mac is that of just one site and head.
func TestSealedForAnotherMark(t *testing.T) {
	key := keyOf(20)
	for _, h := range []api.Head{{}, {Seq: 1, Epoch: 1}, {Seq: 7, Epoch: 3, Chain: api.Digest{9, 31: 9}}, {Seq: 127, Epoch: 128}} {
		for site := range 2 {
			m := wordedMark(key, site, h)
			for _, h := range append(goodHeads(), badHeads()...) {
				other := api.Mark{Site: site, Head: h, Mac: m.Mac}
				if check.Sealed(key, other) != (other == m) {
					t.Errorf("%v with the Mac of %v", other, m)
				}
			}
			for bit := range 256 {
				other := m
				other.Head.Chain[bit/8] ^= 1 << (bit % 8)
				if check.Sealed(key, other) {
					t.Errorf("%v with the Mac of %v", other, m)
				}
			}
			for _, site := range append(badSites(), 1-site) {
				other := api.Mark{Site: site, Head: h, Mac: m.Mac}
				if check.Sealed(key, other) {
					t.Errorf("%v with the Mac of %v", other, m)
				}
			}
		}
	}
}

// P16.1: under another key it is not sealed; keys that seal alike (P4.5) are one.
func TestSealedUnderAnotherKey(t *testing.T) {
	m := wordedMark(keyOf(20), 1, api.Head{Seq: 5, Epoch: 2})
	for i := range 20 {
		for bit := range 8 {
			key := keyOf(20)
			key[i] ^= 1 << bit
			if check.Sealed(key, m) {
				t.Errorf("sealed with bit %d of byte %d turned", bit, i)
			}
		}
	}
	for _, key := range keys() {
		if check.Sealed(key, m) {
			t.Errorf("sealed with %x", key)
		}
	}
	if !check.Sealed(append(keyOf(20), 0, 0), m) {
		t.Error("not sealed with zeros behind the key")
	}
	long := keyOf(1000)
	d := sha256.Sum256(long)
	if m, _ := check.Make(long, 0, api.Head{}); !check.Sealed(d[:], m) || check.Sealed(long[:64], m) {
		t.Error("a long key does not seal as its digest does")
	}
}

// P16.1: it is the key of the purpose and the site that seals, not another one.
func TestSealedByAnotherPurpose(t *testing.T) {
	key := keyOf(20)
	m := api.Mark{Head: api.Head{Seq: 5, Epoch: 2}}
	number := make([]byte, 8)
	for _, purpose := range []string{"", "marks", "mar", "Mark", "MARK", "frame", "m", "mark\x00"} {
		k := macOf(key, slices.Concat([]byte(purpose), []byte{0}, number))
		m.Mac = macOf(k[:], wordedBody(m))
		if check.Sealed(key, m) {
			t.Errorf("sealed by the purpose %q", purpose)
		}
	}
	m.Mac = macOf(key, wordedBody(m))
	if check.Sealed(key, m) {
		t.Error("sealed by the key itself")
	}
}

// Rule 4: what Bytes tells is new memory.
func TestBytesAreNewMemory(t *testing.T) {
	m := wordedMark(keyOf(3), 1, api.Head{Seq: 5, Epoch: 2, Chain: api.Digest{7}})
	first, _ := check.Bytes(m)
	second, _ := check.Bytes(m)
	clear(first[:cap(first)])
	if !bytes.Equal(second, wordedBytes(m)) {
		t.Error("two answers share memory")
	}
	if x, e := check.Parse(second); x != m || e != api.OK || !bytes.Equal(second, wordedBytes(m)) {
		t.Errorf("%v, %d", x, e)
	}
}
