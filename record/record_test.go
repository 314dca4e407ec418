package record_test

import (
	"math"
	"slices"
	"strings"
	"testing"

	"saltern/api"
	"saltern/record"
)

// P13.1: the chapter's example, and one of each other kind, reckoned by hand.
func TestBytesThatWereReckonedByHand(t *testing.T) {
	zeros := strings.Repeat("00", 32)
	prev := "01" + strings.Repeat("00", 30) + "ff"
	first := "aa" + strings.Repeat("00", 31)
	second := strings.Repeat("00", 31) + "bb"
	for _, c := range []struct {
		r    api.Record
		want string
	}{
		{api.Record{Seq: 1, Epoch: 1, Kind: api.RLead}, "52 01 01 01" + zeros + "00"},
		{api.Record{Seq: 300, Epoch: 128, Prev: api.Digest{1, 31: 255}, Kind: api.RLead, Site: 1}, "52 01 ac02 8001" + prev + "01"},
		{api.Record{Seq: 2, Epoch: 1, Kind: api.RPut, Path: "a"}, "52 02 02 01" + zeros + "01 61 00"},
		{api.Record{Seq: 2, Epoch: 1, Prev: api.Digest{1, 31: 255}, Kind: api.RPut, Path: "a/~", Pieces: []api.Piece{{D: api.Digest{0xaa}, N: 4096}, {D: api.Digest{31: 0xbb}, N: 5}}}, "52 02 02 01" + prev + "03 612f7e 02 8020" + first + "05" + second},
		{api.Record{Seq: 1 << 30, Epoch: 1 << 30, Kind: api.RDelete, Path: "!b"}, "52 03 8080808004 8080808004" + zeros + "02 2162"},
	} {
		want := raw(t, c.want)
		if b, e := record.Bytes(c.r); !slices.Equal(b, want) || e != api.OK {
			t.Errorf("%s: %x, %d, not %x", short(c.r), b, e, want)
		}
		if r, e := record.Parse(want); !alike(r, c.r) || e != api.OK {
			t.Errorf("%x: %s, %d, not %s", want, short(r), e, short(c.r))
		}
	}
	if b, _ := record.Bytes(api.Record{Seq: 1, Epoch: 1, Kind: api.RLead}); len(b) != 37 {
		t.Errorf("%d bytes", len(b))
	}
}

// P13.1
func TestRecordsThatMayBe(t *testing.T) {
	for _, c := range good() {
		if !wordedMay(c.r) {
			t.Errorf("%s: it may not be", c.what)
		}
		checks(t, c.what, c.r, true)
	}
}

// P13.1
func TestRecordsThatMayNotBe(t *testing.T) {
	for _, c := range bad() {
		if wordedMay(c.r) {
			t.Errorf("%s: it may be", c.what)
		}
		checks(t, c.what, c.r, false)
	}
}

// P13.1: each field on its own at each number.
func TestEachFieldAtTheExtremes(t *testing.T) {
	for _, c := range []api.Record{lead(0), lead(1), put("a"), put("a", sized(3, 4)...), del("a")} {
		for _, n := range extremes() {
			for _, r := range []api.Record{
				changed(c, func(r *api.Record) { r.Seq = n }),
				changed(c, func(r *api.Record) { r.Epoch = n }),
				changed(c, func(r *api.Record) { r.Kind = api.RecordKind(n) }),
				changed(c, func(r *api.Record) { r.Site = n }),
				changed(c, func(r *api.Record) { r.Pieces = sized(n) }),
				changed(c, func(r *api.Record) { r.Pieces = sized(1, n) }),
			} {
				checks(t, "a field at an extreme", r, wordedMay(r))
			}
		}
	}
}

// P13.1: records of any fields, most of which may not be.
func TestRecordsOfAnyFields(t *testing.T) {
	c := chance(1)
	all := extremes()
	paths := []string{"", "a", " ", "\x7f", "b!~", strings.Repeat("x", 255), strings.Repeat("x", 256)}
	seen := map[bool]int{}
	for range 20000 {
		r := api.Record{Seq: 1 + c.below(3), Epoch: 1 + c.below(3), Prev: c.digest(), Kind: api.RecordKind(c.below(5)), Site: c.below(2)}
		if c.below(4) == 0 {
			r.Seq, r.Site = all[c.below(len(all))], all[c.below(len(all))]
		}
		if c.below(3) > 0 {
			r.Path = paths[c.below(len(paths))]
		}
		if c.below(2) == 0 {
			r.Pieces = sized(c.below(3), 1)
		}
		seen[wordedMay(r)]++
		checks(t, "any fields", r, wordedMay(r))
	}
	if seen[true] < 100 || seen[false] < 100 {
		t.Errorf("%v", seen)
	}
}

// P13.1: two reasons at once are told as one.
func TestSeveralFaultsOfARecord(t *testing.T) {
	c := chance(2)
	l := bad()
	for range 2000 {
		a, b := l[c.below(len(l))].r, l[c.below(len(l))].r
		a.Seq, a.Path = b.Seq, b.Path
		if !wordedMay(a) {
			checks(t, "several faults", a, false)
		}
	}
}

// P13.1
func TestSize(t *testing.T) {
	for _, c := range []struct {
		what string
		l    []api.Piece
		want int
	}{
		{"nil", nil, 0},
		{"empty", []api.Piece{}, 0},
		{"1 byte", sized(1), 1},
		{"4096 bytes", sized(4096), 4096},
		{"some", sized(3, 5, 2), 10},
		{"4096 pieces", many(4096, 1), 4096},
		{"2^20 bytes", many(256, 4096), 1 << 20},
		{"2^20 bytes of 4096 pieces", many(4096, 256), 1 << 20},
		{"one byte fewer", append(many(255, 4096), sized(4095)...), 1<<20 - 1},
		{"one byte more", append(many(256, 4096), sized(1)...), -1},
		{"one byte more, first", append(sized(1), many(256, 4096)...), -1},
		{"one byte more of 4096 pieces", append(many(4095, 256), sized(257)...), -1},
		{"4097 pieces", many(4097, 1), -1},
		{"4097 pieces of the most bytes", many(4097, 4096), -1},
		{"far more pieces", many(100000, 1), -1},
		{"0 bytes", sized(0), -1},
		{"0 bytes at the end", sized(7, 0), -1},
		{"4097 bytes", sized(4097), -1},
		{"4097 bytes within", sized(7, 4097, 7), -1},
		{"below 0", sized(-1), -1},
		{"below 0, and enough ahead", sized(4096, -1), -1},
		{"the least", sized(math.MinInt), -1},
		{"the greatest", sized(math.MaxInt), -1},
		{"the greatest and the least", sized(math.MaxInt, math.MinInt, 2), -1},
		{"a sum that passes all numbers", sized(math.MaxInt, math.MaxInt, 3), -1},
	} {
		was := slices.Clone(c.l)
		want, wantE := c.want, api.Errno(0)
		if c.want < 0 {
			want, wantE = 0, 130
		}
		if n, e := record.Size(c.l...); n != want || e != wantE {
			t.Errorf("%s: %d, %d, not %d, %d", c.what, n, e, want, wantE)
		}
		if wordedSize(c.l) != c.want {
			t.Errorf("%s: %d by the words, not %d", c.what, wordedSize(c.l), c.want)
		}
		if !slices.Equal(was, c.l) {
			t.Errorf("%s: the argument changed", c.what)
		}
	}
}

// P13.1
func TestSizeOfAnyPieces(t *testing.T) {
	c := chance(3)
	for range 300 {
		l := c.pieces(c.below(600), 1+c.below(4096))
		if c.below(4) == 0 && len(l) > 0 {
			l[c.below(len(l))].N = extremes()[c.below(len(extremes()))]
		}
		want, wantE := wordedSize(l), api.Errno(0)
		if want < 0 {
			want, wantE = 0, 130
		}
		if n, e := record.Size(l...); n != want || e != wantE {
			t.Errorf("%d pieces: %d, %d, not %d, %d", len(l), n, e, want, wantE)
		}
	}
}

// P13.1
func TestIsPath(t *testing.T) {
	for _, s := range []string{"a", "!", "~", "/", "a/b~", "..", allBytes(), strings.Repeat("p", 254), strings.Repeat("~", 255), strings.Repeat("!", 255)} {
		if !record.IsPath(s) {
			t.Errorf("%q is none", s)
		}
	}
	for _, s := range append(otherPaths(), "", strings.Repeat("p", 256), strings.Repeat("p", 257), strings.Repeat("p", 1<<16), strings.Repeat("\x00", 300)) {
		if record.IsPath(s) {
			t.Errorf("%q is one", s)
		}
	}
}

// P13.1: each byte, alone and at each place of a path of 255 bytes.
func TestIsPathOfEachByte(t *testing.T) {
	for c := range 256 {
		want := c >= 33 && c <= 126
		if got := record.IsPath(string([]byte{byte(c)})); got != want {
			t.Errorf("byte %d: %t", c, got)
		}
		b := []byte(strings.Repeat("p", 255))
		for i := range b {
			b[i] = byte(c)
			if got := record.IsPath(string(b)); got != want {
				t.Errorf("byte %d at %d: %t", c, i, got)
			}
			b[i] = 'p'
		}
	}
}

// same asks for Same both ways round.
func same(t *testing.T, what string, a, b api.Record, want bool) {
	t.Helper()
	if x, y := record.Same(a, b), record.Same(b, a); x != want || y != want {
		t.Errorf("%s: %t, %t, not %t", what, x, y, want)
	}
}

// P13.1: each field tells, in records that may be and in others.
func TestSame(t *testing.T) {
	l := []api.Record{{}, lead(0), del("a"), put("a"), put("a", sized(1, 2, 3)...), {Seq: -1, Kind: 9, Site: -4, Path: "\x00", Pieces: sized(-1, 0)}}
	for i, a := range l {
		for j, b := range l {
			same(t, "records", a, copyOf(b), i == j)
		}
		same(t, "another Seq", a, changed(a, func(r *api.Record) { r.Seq++ }), false)
		same(t, "another Epoch", a, changed(a, func(r *api.Record) { r.Epoch-- }), false)
		same(t, "another Kind", a, changed(a, func(r *api.Record) { r.Kind++ }), false)
		same(t, "another Site", a, changed(a, func(r *api.Record) { r.Site += 256 }), false)
		same(t, "a longer path", a, changed(a, func(r *api.Record) { r.Path += "\x00" }), false)
		same(t, "another path", changed(a, func(r *api.Record) { r.Path += "A" }), changed(a, func(r *api.Record) { r.Path += "a" }), false)
		same(t, "a piece more", a, changed(a, func(r *api.Record) { r.Pieces = append(slices.Clone(r.Pieces), api.Piece{}) }), false)
		for k := range a.Prev {
			same(t, "another Prev", a, changed(a, func(r *api.Record) { r.Prev[k] ^= 128 }), false)
		}
		for k := range a.Pieces {
			same(t, "another N", a, changed(copyOf(a), func(r *api.Record) { r.Pieces[k].N++ }), false)
			same(t, "another D", a, changed(copyOf(a), func(r *api.Record) { r.Pieces[k].D[31]++ }), false)
			same(t, "a piece fewer", a, changed(a, func(r *api.Record) { r.Pieces = slices.Delete(slices.Clone(r.Pieces), k, k+1) }), false)
		}
	}
	turned := []api.Piece{sized(1, 2)[1], sized(1, 2)[0]}
	same(t, "pieces the other way round", put("a", sized(1, 2)...), put("a", turned...), false)
}

// P13.1
func TestSameOfNilAndEmptyPieces(t *testing.T) {
	for _, r := range []api.Record{lead(1), put("a"), del("a"), {}} {
		none := changed(r, func(r *api.Record) { r.Pieces = nil })
		empty := changed(r, func(r *api.Record) { r.Pieces = []api.Piece{} })
		room := changed(r, func(r *api.Record) { r.Pieces = make([]api.Piece, 3)[:0] })
		same(t, "nil and empty", none, empty, true)
		same(t, "nil and room", none, room, true)
		same(t, "nil and nil", none, none, true)
		same(t, "nil and one", none, put("a", sized(1)...), false)
		checks(t, "nil", none, wordedMay(r))
		checks(t, "empty", empty, wordedMay(r))
		checks(t, "room", room, wordedMay(r))
	}
}

// P13.1: what Bytes tells is new each time.
func TestBytesAreNew(t *testing.T) {
	for _, c := range good() {
		a, _ := record.Bytes(c.r)
		was := slices.Clone(a)
		b, _ := record.Bytes(c.r)
		for i := range a {
			a[i] ^= 255
		}
		if again, _ := record.Bytes(c.r); !slices.Equal(b, was) || !slices.Equal(again, was) {
			t.Errorf("%s: an answer is shared", c.what)
		}
		checks(t, c.what, c.r, true)
	}
}
