package record_test

import (
	"crypto/sha256"
	"encoding/binary"
	"encoding/hex"
	"fmt"
	"math"
	"slices"
	"strings"
	"testing"

	"saltern/api"
	"saltern/record"
)

// chance is numbers without a pattern, always the same ones.
type chance uint64

func (c *chance) below(n int) int {
	*c = *c*6364136223846793005 + 1442695040888963407
	return int(uint64(*c)>>33) % n
}

func (c *chance) digest() api.Digest {
	var d api.Digest
	for i := range d {
		d[i] = byte(c.below(256))
	}
	return d
}

// path is one of 1 to most bytes.
func (c *chance) path(most int) string {
	b := make([]byte, 1+c.below(most))
	for i := range b {
		b[i] = byte(33 + c.below(94))
	}
	return string(b)
}

// pieces are n, each of 1 to most bytes.
func (c *chance) pieces(n, most int) []api.Piece {
	l := make([]api.Piece, n)
	for i := range l {
		l[i] = api.Piece{D: c.digest(), N: 1 + c.below(most)}
	}
	return l
}

// number is one from 1 to 2^30, of any length.
func (c *chance) number() int {
	return 1 + c.below(1<<c.below(31))
}

// record is one that may be.
func (c *chance) record() api.Record {
	r := api.Record{Seq: c.number(), Epoch: c.number(), Prev: c.digest()}
	return c.content(r)
}

// content is a record with a kind, and what that names.
func (c *chance) content(r api.Record) api.Record {
	switch c.below(3) {
	case 0:
		r.Kind, r.Site = api.RLead, c.below(2)
	case 1:
		r.Kind, r.Path, r.Pieces = api.RPut, c.path(255), c.pieces(c.below(6), 4096)
	default:
		r.Kind, r.Path = api.RDelete, c.path(255)
	}
	return r
}

// row is n records, each of which follows the one ahead, the first one the zero head.
func (c *chance) row(t *testing.T, n int) []api.Record {
	t.Helper()
	l := []api.Record{}
	h := api.Head{}
	for len(l) < n {
		r := c.content(api.Record{})
		if len(l) == 0 {
			r = api.Record{Kind: api.RLead, Site: c.below(2)}
		}
		r.Seq, r.Prev, r.Epoch = h.Seq+1, h.Chain, h.Epoch
		if r.Kind == api.RLead {
			r.Epoch += 1 + c.below(3)
		}
		l = append(l, r)
		h = headOf(r)
	}
	return l
}

// lead, put and del are records with Seq 2, Epoch 3 and a Prev that is not zero.
func lead(site int) api.Record {
	return api.Record{Seq: 2, Epoch: 3, Prev: api.Digest{7, 31: 8}, Kind: api.RLead, Site: site}
}

func put(path string, l ...api.Piece) api.Record {
	return api.Record{Seq: 2, Epoch: 3, Prev: api.Digest{7, 31: 8}, Kind: api.RPut, Path: path, Pieces: l}
}

func del(path string) api.Record {
	return api.Record{Seq: 2, Epoch: 3, Prev: api.Digest{7, 31: 8}, Kind: api.RDelete, Path: path}
}

// sized are pieces of so many bytes, with digests that are told apart.
func sized(sizes ...int) []api.Piece {
	l := []api.Piece{}
	for i, n := range sizes {
		l = append(l, api.Piece{D: api.Digest{byte(i), byte(i >> 8), 31: 9}, N: n})
	}
	return l
}

// many are n pieces of one size.
func many(n, size int) []api.Piece {
	return sized(slices.Repeat([]int{size}, n)...)
}

// changed is a record that a function changed.
func changed(r api.Record, by func(r *api.Record)) api.Record {
	by(&r)
	return r
}

// wordedMay is the chapter's 'may be', read once more.
func wordedMay(r api.Record) bool {
	if r.Seq < 1 || r.Seq > 1<<30 || r.Epoch < 1 || r.Epoch > 1<<30 {
		return false
	}
	switch r.Kind {
	case 1:
		return (r.Site == 0 || r.Site == 1) && r.Path == "" && len(r.Pieces) == 0
	case 2:
		return r.Site == 0 && wordedPath(r.Path) && wordedSize(r.Pieces) >= 0
	case 3:
		return r.Site == 0 && wordedPath(r.Path) && len(r.Pieces) == 0
	}
	return false
}

func wordedPath(s string) bool {
	other := strings.IndexFunc(s, func(c rune) bool { return c < 33 || c > 126 })
	return len(s) >= 1 && len(s) <= 255 && other < 0
}

// wordedSize is a file's size, below 0 where the pieces are no file's.
func wordedSize(l []api.Piece) int {
	size := 0
	for _, p := range l {
		if p.N < 1 || p.N > 4096 {
			return -1
		}
		size += p.N
	}
	if len(l) > 4096 || size > 1<<20 {
		return -1
	}
	return size
}

// wordedBytes are a record's by the chapter's words, whether it may be or not.
func wordedBytes(r api.Record) []byte {
	b := []byte{'R', byte(r.Kind)}
	b = binary.AppendUvarint(b, uint64(r.Seq))
	b = binary.AppendUvarint(b, uint64(r.Epoch))
	b = append(b, r.Prev[:]...)
	if r.Kind == 1 {
		return append(b, byte(r.Site))
	}
	b = append(b, byte(len(r.Path)))
	b = append(b, r.Path...)
	if r.Kind == 2 {
		b = binary.AppendUvarint(b, uint64(len(r.Pieces)))
		for _, p := range r.Pieces {
			b = binary.AppendUvarint(b, uint64(p.N))
			b = append(b, p.D[:]...)
		}
	}
	return b
}

// headOf is a record's, by the chapter's words and the library's SHA-256.
func headOf(r api.Record) api.Head {
	return api.Head{Seq: r.Seq, Epoch: r.Epoch, Chain: sha256.Sum256(wordedBytes(r))}
}

// copyOf is a record that shares no memory with another one.
func copyOf(r api.Record) api.Record {
	r.Pieces = slices.Clone(r.Pieces)
	return r
}

// alike is Same, read once more.
func alike(a, b api.Record) bool {
	same := len(a.Pieces) == len(b.Pieces)
	for i := 0; same && i < len(a.Pieces); i++ {
		same = a.Pieces[i] == b.Pieces[i]
	}
	a.Pieces, b.Pieces = nil, nil
	return same && a.Seq == b.Seq && a.Epoch == b.Epoch && a.Prev == b.Prev && a.Kind == b.Kind && a.Site == b.Site && a.Path == b.Path
}

// short tells of a record in one line, however many pieces it has.
func short(r api.Record) string {
	few := r.Pieces[:min(3, len(r.Pieces))]
	return fmt.Sprintf("{%d %d %x %d %d %.20q %d %x}", r.Seq, r.Epoch, r.Prev, r.Kind, r.Site, r.Path, len(r.Pieces), few)
}

// isZero tells whether an answer beside an error is what it must be.
func isZero(r api.Record) bool { return alike(r, api.Record{}) }

// raw are the bytes of a text of hexadecimal digits.
func raw(t *testing.T, s string) []byte {
	t.Helper()
	b, err := hex.DecodeString(strings.ReplaceAll(s, " ", ""))
	if err != nil {
		t.Fatal(err)
	}
	return b
}

// extremes are numbers at and past each limit, and the least and the greatest of all.
func extremes() []int {
	return []int{math.MinInt, math.MinInt + 1, -1 << 32, -1 << 30, -4096, -256, -2, -1, 0, 1, 2, 3, 127, 128, 255, 256, 257, 258, 259, 1<<30 - 1, 1 << 30, 1<<30 + 1, 1<<32 + 1, 1<<32 + 2, math.MaxInt - 1, math.MaxInt}
}

// named is a record and what is special in it.
type named struct {
	what string
	r    api.Record
}

// good are records that may be: each kind, at each edge that the chapter names.
func good() []named {
	return []named{
		{"site 0", lead(0)},
		{"site 1", lead(1)},
		{"a path of 1 byte", del("a")},
		{"a path of 255 bytes", del(strings.Repeat("p", 255))},
		{"a path of byte 33", del("!")},
		{"a path of byte 126", put("~")},
		{"a path of all bytes", put(allBytes())},
		{"no pieces", put("a")},
		{"nil pieces", changed(put("a"), func(r *api.Record) { r.Pieces = nil })},
		{"empty pieces", changed(put("a"), func(r *api.Record) { r.Pieces = []api.Piece{} })},
		{"empty pieces of RLead", changed(lead(0), func(r *api.Record) { r.Pieces = []api.Piece{} })},
		{"empty pieces of RDelete", changed(del("a"), func(r *api.Record) { r.Pieces = []api.Piece{} })},
		{"a piece of 1 byte", put("a", sized(1)...)},
		{"a piece of 4096 bytes", put("a", sized(4096)...)},
		{"pieces of 127 and 128 bytes", put("a", sized(127, 128)...)},
		{"a piece twice", put("a", sized(5)[0], sized(5)[0])},
		{"4095 pieces", put("a", many(4095, 1)...)},
		{"4096 pieces", put("a", many(4096, 1)...)},
		{"2^20 bytes of 256 pieces", put("a", many(256, 4096)...)},
		{"2^20 bytes of 4096 pieces", put("a", many(4096, 256)...)},
		{"2^20 bytes and one fewer", put("a", append(many(255, 4096), sized(4095)...)...)},
		{"the most bytes", put(strings.Repeat("p", 255), many(4096, 256)...)},
		{"Seq 1", changed(lead(0), func(r *api.Record) { r.Seq = 1 })},
		{"Seq 127", changed(lead(0), func(r *api.Record) { r.Seq = 127 })},
		{"Seq 128", changed(lead(0), func(r *api.Record) { r.Seq = 128 })},
		{"Seq 2^30", changed(del("a"), func(r *api.Record) { r.Seq = 1 << 30 })},
		{"Epoch 1", changed(put("a"), func(r *api.Record) { r.Epoch = 1 })},
		{"Epoch 2^30", changed(lead(1), func(r *api.Record) { r.Epoch = 1 << 30 })},
		{"Prev zero", changed(lead(1), func(r *api.Record) { r.Prev = api.Digest{} })},
	}
}

// bad are records that may not be, each for one reason.
func bad() []named {
	l := []named{
		{"nothing", api.Record{}},
		{"kind 0", changed(lead(0), func(r *api.Record) { r.Kind = 0 })},
		{"kind 0 with a path", changed(del("a"), func(r *api.Record) { r.Kind = 0 })},
		{"kind 4", changed(lead(0), func(r *api.Record) { r.Kind = 4 })},
		{"kind 4 with a path", changed(put("a"), func(r *api.Record) { r.Kind = 4 })},
		{"RLead with a path", changed(lead(0), func(r *api.Record) { r.Path = "a" })},
		{"RLead with pieces", changed(lead(1), func(r *api.Record) { r.Pieces = sized(1) })},
		{"RPut with a site", changed(put("a"), func(r *api.Record) { r.Site = 1 })},
		{"RDelete with a site", changed(del("a"), func(r *api.Record) { r.Site = 1 })},
		{"RDelete with pieces", changed(del("a"), func(r *api.Record) { r.Pieces = sized(1) })},
		{"an empty path of RPut", put("")},
		{"an empty path of RDelete", del("")},
		{"a path of 256 bytes", put(strings.Repeat("p", 256))},
		{"a path of 257 bytes", del(strings.Repeat("p", 257))},
		{"a path of 512 bytes", del(strings.Repeat("p", 512))},
		{"a piece of 0 bytes", put("a", sized(0)...)},
		{"a last piece of 0 bytes", put("a", sized(1, 0)...)},
		{"a piece of 4097 bytes", put("a", sized(4097)...)},
		{"a middle piece of 4097 bytes", put("a", sized(1, 4097, 1)...)},
		{"a piece below 0", put("a", sized(-1)...)},
		{"pieces that are right together", put("a", sized(5, -1)...)},
		{"4097 pieces", put("a", many(4097, 1)...)},
		{"2^20 bytes and one", put("a", append(many(256, 4096), sized(1)...)...)},
		{"2^20 bytes and more of 4096 pieces", put("a", append(many(4095, 256), sized(257)...)...)},
		{"far more than 2^20 bytes", put("a", many(4096, 4096)...)},
	}
	for _, n := range []int{math.MinInt, -1 << 30, -1, 0, 1<<30 + 1, 1 << 32, 1<<32 + 1, math.MaxInt} {
		l = append(l,
			named{"another Seq", changed(lead(0), func(r *api.Record) { r.Seq = n })},
			named{"another Seq", changed(put("a"), func(r *api.Record) { r.Seq = n })},
			named{"another Epoch", changed(lead(1), func(r *api.Record) { r.Epoch = n })},
			named{"another Epoch", changed(del("a"), func(r *api.Record) { r.Epoch = n })})
	}
	for _, n := range []int{math.MinInt, -256, -1, 2, 3, 256, 257, math.MaxInt} {
		l = append(l,
			named{"another site", lead(n)},
			named{"a site", changed(put("a"), func(r *api.Record) { r.Site = n })})
	}
	for _, n := range []int{math.MinInt, -1, 4, 255, 256, 257, 258, 259, math.MaxInt} {
		l = append(l,
			named{"another kind", changed(lead(0), func(r *api.Record) { r.Kind = api.RecordKind(n) })},
			named{"another kind", changed(put("a", sized(1)...), func(r *api.Record) { r.Kind = api.RecordKind(n) })})
	}
	for _, s := range otherPaths() {
		l = append(l, named{"another path", put(s)}, named{"another path", del(s)})
	}
	return l
}

// allBytes is a path with each byte that a path may have.
func allBytes() string {
	b := []byte{}
	for c := 33; c <= 126; c++ {
		b = append(b, byte(c))
	}
	return string(b)
}

// otherPaths are texts that have a byte that no path has, at the beginning, within and at the end.
func otherPaths() []string {
	l := []string{"a b", "/a\n", "\x00", "a\x00", "ä", "a/ä", "日", "\xff", "\x80a"}
	for c := range 256 {
		if c < 33 || c > 126 {
			s := string([]byte{byte(c)})
			l = append(l, s, s+"a", "a"+s, "a"+s+"a", strings.Repeat("p", 254)+s)
		}
	}
	return l
}

// checks asks that Check, Bytes and Chain tell of a record that it may be, or not.
func checks(t *testing.T, what string, r api.Record, may bool) {
	t.Helper()
	was := copyOf(r)
	wantE, wantBytes, wantChain := api.Errno(130), []byte(nil), api.Digest{}
	if may {
		wantE, wantBytes, wantChain = 0, wordedBytes(r), headOf(r).Chain
	}
	if e := record.Check(r); e != wantE {
		t.Errorf("%s: Check: %d, not %d", what, e, wantE)
	}
	if b, e := record.Bytes(r); !slices.Equal(b, wantBytes) || e != wantE {
		t.Errorf("%s: Bytes: %.80x, %d, not %.80x, %d", what, b, e, wantBytes, wantE)
	}
	if d, e := record.Chain(r); d != wantChain || e != wantE {
		t.Errorf("%s: Chain: %x, %d, not %x, %d", what, d, e, wantChain, wantE)
	}
	if !alike(r, was) {
		t.Errorf("%s: the argument changed", what)
	}
}
