package check_test

import (
	"bytes"
	"crypto/hmac"
	"crypto/sha256"
	"encoding/binary"
	"encoding/hex"
	"math"
	"strings"
	"testing"

	"saltern/api"
	"saltern/record"
)

// chance is numbers without a pattern, always the same ones.
type chance uint64

func (c *chance) below(n int) int {
	*c = *c*6364136223846793005 + 1442695040888963407
	return int(uint64(*c)>>33) % n
}

func (c *chance) digest() api.Digest {
	var d api.Digest
	for i := range d {
		d[i] = byte(c.below(256))
	}
	return d
}

// head is one that may be, of numbers of any length.
func (c *chance) head() api.Head {
	if c.below(20) == 0 {
		return api.Head{}
	}
	return api.Head{Seq: 1 + c.below(1<<c.below(31)), Epoch: 1 + c.below(1<<c.below(31)), Chain: c.digest()}
}

// keyOf is a key of n bytes.
func keyOf(n int) []byte {
	b := make([]byte, n)
	for i := range b {
		b[i] = byte(1 + i%255)
	}
	return b
}

// keys are of no bytes, of a few, of as many as a block has, one fewer and more, and of many.
func keys() [][]byte {
	return [][]byte{nil, {}, keyOf(1), keyOf(3), keyOf(32), keyOf(63), keyOf(64), keyOf(65), keyOf(1000)}
}

// wordedHead is the chapter's 'a head may be', read once more.
func wordedHead(h api.Head) bool {
	if h.Seq == 0 && h.Epoch == 0 && bytes.Equal(h.Chain[:], make([]byte, 32)) {
		return true
	}
	return h.Seq > 0 && h.Seq <= 1<<30 && h.Epoch > 0 && h.Epoch <= 1<<30
}

// wordedMay is its 'a mark may be'.
func wordedMay(m api.Mark) bool {
	return m.Site >= 0 && m.Site <= 1 && wordedHead(m.Head)
}

// wordedBody are the bytes of a mark but for its Mac, whether it may be or not.
func wordedBody(m api.Mark) []byte {
	b := []byte{'M', byte(m.Site)}
	b = binary.AppendUvarint(b, uint64(m.Head.Seq))
	b = binary.AppendUvarint(b, uint64(m.Head.Epoch))
	return append(b, m.Head.Chain[:]...)
}

func wordedBytes(m api.Mark) []byte {
	return append(wordedBody(m), m.Mac[:]...)
}

// wordedMark is the mark that is sealed, by the library's HMAC, whether it may be or not.
func wordedMark(key []byte, site int, h api.Head) api.Mark {
	m := api.Mark{Site: site, Head: h}
	derived := macOf(key, binary.BigEndian.AppendUint64([]byte("mark\x00"), uint64(site)))
	m.Mac = macOf(derived[:], wordedBody(m))
	return m
}

func macOf(key, b []byte) api.Digest {
	m := hmac.New(sha256.New, key)
	m.Write(b)
	return api.Digest(m.Sum(nil))
}

// wordedSealed is the chapter's 'it is sealed'.
func wordedSealed(key []byte, m api.Mark) bool {
	return wordedMay(m) && wordedMark(key, m.Site, m.Head) == m
}

// wordedHas is the chapter's 'it has', by each number.
func wordedHas(l []api.Record, h api.Head) bool {
	for n := range len(l) + 1 {
		if n != h.Seq {
			continue
		}
		at, _, e := record.Walk(api.Head{}, l[:n]...)
		return e == api.OK && at.Seq == h.Seq && at.Epoch == h.Epoch && bytes.Equal(at.Chain[:], h.Chain[:])
	}
	return false
}

// wordedNewest goes through the pairs of marks: none that is sealed is newer, and none ahead as new.
func wordedNewest(key []byte, l []api.Mark) (int, bool) {
	for i, m := range l {
		best := wordedSealed(key, m)
		for k, x := range l {
			if k == i || !wordedSealed(key, x) {
				continue
			}
			alike := x.Head.Seq == m.Head.Seq && x.Head.Epoch == m.Head.Epoch
			if x.Head.Seq > m.Head.Seq || x.Head.Seq == m.Head.Seq && x.Head.Epoch > m.Head.Epoch || alike && k < i {
				best = false
			}
		}
		if best {
			return i, true
		}
	}
	return 0, false
}

// wordedAudit goes through the kinds, one behind the other.
func wordedAudit(key []byte, l []api.Record, marks []api.Mark) api.Finding {
	if _, n, e := record.Walk(api.Head{}, l...); e != api.OK {
		return api.Finding{Kind: 1, I: n}
	}
	for i, m := range marks {
		if !wordedSealed(key, m) {
			return api.Finding{Kind: 2, I: i}
		}
	}
	for k, m := range marks {
		for i, x := range marks[:k] {
			if x.Head.Seq == m.Head.Seq && (x.Head.Epoch != m.Head.Epoch || x.Head.Chain != m.Head.Chain) {
				return api.Finding{Kind: 3, I: i, K: k}
			}
		}
	}
	for i, m := range marks {
		if m.Head.Seq <= len(l) && !wordedHas(l, m.Head) {
			return api.Finding{Kind: 4, I: i}
		}
	}
	for i, m := range marks {
		if m.Head.Seq > len(l) {
			return api.Finding{Kind: 5, I: i}
		}
	}
	return api.Finding{Kind: 6}
}

// catalogue is records that follow one another, and its heads: one more than records.
type catalogue struct {
	l     []api.Record
	heads []api.Head
}

// with is the catalogue with a record more, which record.Make makes of r; it shares nothing with the elder one.
func (c catalogue) with(t *testing.T, r api.Record) catalogue {
	t.Helper()
	last := c.heads[len(c.heads)-1]
	made, e := record.Make(last, r)
	if e != api.OK {
		t.Fatalf("%v behind %v: %d", r, last, e)
	}
	b, e := record.Bytes(made)
	if e != api.OK {
		t.Fatal(e)
	}
	h := api.Head{Seq: made.Seq, Epoch: made.Epoch, Chain: sha256.Sum256(b)}
	return catalogue{append(c.l[:len(c.l):len(c.l)], made), append(c.heads[:len(c.heads):len(c.heads)], h)}
}

// none is the catalogue of no records.
func none() catalogue {
	return catalogue{heads: []api.Head{{}}}
}

// puts is a catalogue with an RPut of each path more; at the beginning of one of no records site 0 leads.
func (c catalogue) puts(t *testing.T, paths ...string) catalogue {
	t.Helper()
	if len(c.l) == 0 {
		c = c.with(t, api.Record{Kind: api.RLead, Epoch: 1})
	}
	for _, p := range paths {
		c = c.with(t, api.Record{Kind: api.RPut, Path: p, Pieces: []api.Piece{{D: api.Digest{p[0]}, N: len(p)}}})
	}
	return c
}

// leads is a catalogue with an RLead more.
func (c catalogue) leads(t *testing.T, epoch, site int) catalogue {
	t.Helper()
	return c.with(t, api.Record{Kind: api.RLead, Epoch: epoch, Site: site})
}

// any is a catalogue of n records more, of all kinds.
func (c catalogue) any(t *testing.T, x *chance, n int) catalogue {
	t.Helper()
	for range n {
		switch k := x.below(4); {
		case k == 0 || len(c.l) == 0:
			c = c.leads(t, c.heads[len(c.l)].Epoch+1+x.below(2), x.below(2))
		case k == 1:
			c = c.with(t, api.Record{Kind: api.RDelete, Path: string(rune('a' + x.below(2)))})
		default:
			c = c.puts(t, string(rune('a'+x.below(2))))
		}
	}
	return c
}

// fault is a way in which a record does not follow.
type fault struct {
	what string
	by   func(r *api.Record)
}

func faults() []fault {
	return []fault{
		{"another Prev", func(r *api.Record) { r.Prev[31] ^= 1 }},
		{"a greater Seq", func(r *api.Record) { r.Seq++ }},
		{"an Epoch of another one", func(r *api.Record) {
			if r.Kind == api.RLead {
				r.Epoch = 0
			} else {
				r.Epoch++
			}
		}},
		{"site 2", func(r *api.Record) { r.Site = 2 }},
		{"a kind that is none", func(r *api.Record) { r.Kind = 7 }},
		{"nothing", func(r *api.Record) { *r = api.Record{} }},
	}
}

// spoilt is records of which the one at a place does not follow.
func spoilt(l []api.Record, at int, f fault) []api.Record {
	l = append([]api.Record(nil), l...)
	f.by(&l[at])
	return l
}

// goodHeads are heads that may be, at each edge.
func goodHeads() []api.Head {
	l := []api.Head{{}}
	for _, d := range []api.Digest{{}, {1}, {31: 1}, {0: 255, 7: 'M', 31: 128}} {
		for _, n := range []int{1, 2, 127, 128, 16383, 16384, 1<<30 - 1, 1 << 30} {
			l = append(l, api.Head{Seq: n, Epoch: 1, Chain: d}, api.Head{Seq: 1, Epoch: n, Chain: d}, api.Head{Seq: n, Epoch: n, Chain: d})
		}
	}
	return l
}

// badHeads are heads that may not be.
func badHeads() []api.Head {
	l := []api.Head{{Epoch: 1}, {Epoch: 1 << 30}, {Epoch: -1}, {Chain: api.Digest{1}}, {Chain: api.Digest{31: 1}}, {Chain: api.Digest{15: 128}}, {Epoch: 1, Chain: api.Digest{3}}}
	for _, d := range []api.Digest{{}, {1}} {
		for _, n := range wrongNumbers() {
			l = append(l, api.Head{Seq: n, Epoch: 1, Chain: d}, api.Head{Seq: n, Epoch: 0, Chain: d}, api.Head{Seq: n, Epoch: n, Chain: d}, api.Head{Seq: 1, Epoch: n, Chain: d}, api.Head{Seq: 1 << 30, Epoch: n, Chain: d})
		}
		l = append(l, api.Head{Seq: 1, Chain: d}, api.Head{Seq: 2, Chain: d}, api.Head{Seq: 1 << 30, Chain: d})
	}
	return l
}

// wrongNumbers are below and above what Seq and Epoch may be.
func wrongNumbers() []int {
	return []int{math.MinInt, -1 << 32, -1 << 30, -2, -1, 1<<30 + 1, 1 << 32, 1<<32 + 1, math.MaxInt}
}

// badSites are those that are none.
func badSites() []int {
	return []int{math.MinInt, -256, -2, -1, 2, 3, 255, 256, 257, math.MaxInt}
}

// raw are the bytes of a text of hexadecimal digits.
func raw(t *testing.T, s string) []byte {
	t.Helper()
	b, err := hex.DecodeString(strings.ReplaceAll(s, " ", ""))
	if err != nil {
		t.Fatal(err)
	}
	return b
}
