package archive_test

import (
	"bytes"
	"crypto/sha256"
	"fmt"
	"slices"
	"strings"
	"testing"

	"saltern/api"
	"saltern/archive"
	"saltern/record"
)

// P17.5

// wants asks for the digests that an archive wants.
func wants(t *testing.T, a *archive.Archive, want ...api.Digest) {
	t.Helper()
	slices.SortFunc(want, func(a, b api.Digest) int { return bytes.Compare(a[:], b[:]) })
	want = slices.Compact(want)
	if l, e := a.Wants(); !slices.Equal(l, want) || e != api.OK {
		t.Errorf("Wants: %x, %d, not %x", l, e, want)
	}
}

// One archive has what another one wrote: first its records, then the chunks behind them.
func TestTakeOfWhatAnotherArchiveWrote(t *testing.T) {
	_, a := led(t, 90, conf(30))
	files := map[string][]byte{"a": text(1, 900), "b": text(2, 700), "a/again": text(1, 900), "none": nil}
	for _, path := range []string{"a", "b", "none", "a/again"} {
		puts(t, a, path, files[path])
	}
	puts(t, a, "gone", text(3, 300))
	deletes(t, a, "gone")
	ends(t, "Vow", a.Vow(4), api.OK)
	ends(t, "Lead", a.Lead(4, 0), api.OK)

	c := api.ArchConf{Log: 40, Roll: even(100)} // which plays no part
	d := diskOf(t, 110)
	other := opened(t, d, c)
	l := records(t, a)
	for i, r := range l {
		ends(t, "Take", other.Take(r), api.OK)
		tellsRecords(t, other, l[:i+1])
		files, e := other.List("")
		if !slices.EqualFunc(files, filesOf(l[:i+1]), sameFile) || e != api.OK {
			t.Errorf("behind %d: %v, %d", i+1, files, e)
		}
		wants(t, other, digestsOf(files)...)
	}
	if other.Promise() != 0 {
		t.Errorf("Promise: %d", other.Promise())
	}
	fused(t, d, 0) // all lasts
	if again := opened(t, d, c); state(t, again) != state(t, other) {
		t.Errorf("opened anew:\n%s\nnot\n%s", state(t, again), state(t, other))
	}
	fused(t, d, -1)
	reads(t, other, "none", 0, 0, nil)
	misses(t, other, "a", 0, 900, api.ErrMissing)
	for {
		l, e := other.Wants()
		if e != api.OK {
			t.Fatal(e)
		}
		if len(l) == 0 {
			break
		}
		x := l[len(l)/2]
		if b, e := other.Chunk(x); len(b) > 0 || e != api.ErrNone {
			t.Errorf("Chunk: %d, %d", len(b), e)
		}
		b, e := a.Chunk(x)
		if e != api.OK {
			t.Fatal(e)
		}
		if told, e := other.Give(b); told != x || e != api.OK {
			t.Fatalf("Give: %d", e)
		}
		if again, e := other.Chunk(x); !bytes.Equal(again, b) || e != api.OK {
			t.Errorf("Chunk: %d, %d", len(again), e)
		}
		wants(t, other, slices.DeleteFunc(l, func(d api.Digest) bool { return d == x })...)
	}
	for path, b := range files {
		reads(t, other, path, 0, len(b), b)
	}
	if filesState(t, other) != filesState(t, a) {
		t.Errorf("%s\nnot\n%s", filesState(t, other), filesState(t, a))
	}
}

// What is handed in is neither changed nor kept.
func TestTakeKeepsNothing(t *testing.T) {
	_, a := led(t, 60, conf(20))
	chunk := []byte("a chunk")
	l := rowOf(t, append(records(t, a), put("a", pieceOf(chunk), pieceOf(chunk)))...)
	r := l[1]
	r.Pieces = slices.Clone(r.Pieces)
	ends(t, "Take", a.Take(r), api.OK)
	if !record.Same(r, l[1]) {
		t.Errorf("%v, not %v", r, l[1])
	}
	clear(r.Pieces)
	given := bytes.Clone(chunk)
	ends(t, "Give", gives(a, given), api.OK)
	if !bytes.Equal(given, chunk) {
		t.Errorf("%s", given)
	}
	clear(given)
	tellsRecords(t, a, l)
	reads(t, a, "a", 0, 14, []byte("a chunka chunk"))
	wants(t, a)
}

func TestTakeRefuses(t *testing.T) {
	_, a := led(t, 60, conf(20))
	piece := pieceOf([]byte("a chunk"))
	l := rowOf(t, append(records(t, a), put("a", piece), put("b"), deletion("b"))...)
	for _, r := range l[1:] {
		ends(t, "Take", a.Take(r), api.OK)
	}
	next := func(r api.Record) api.Record {
		all := rowOf(t, append(slices.Clone(l), r)...)
		return all[len(all)-1]
	}
	was := state(t, a)
	spoil := func(r api.Record, by func(r *api.Record)) api.Record {
		r = next(r)
		r.Pieces = slices.Clone(r.Pieces)
		by(&r)
		return r
	}
	for what, c := range map[string]struct {
		r    api.Record
		want api.Errno
	}{
		"nothing":                         {api.Record{}, api.ErrRecord},
		"a kind that is none":             {spoil(put("c"), func(r *api.Record) { r.Kind = 4 }), api.ErrRecord},
		"a path that is none":             {spoil(put("c"), func(r *api.Record) { r.Path = "c d" }), api.ErrRecord},
		"a path too long":                 {spoil(deletion("a"), func(r *api.Record) { r.Path = strings.Repeat("a", 256) }), api.ErrRecord},
		"a piece of no bytes":             {spoil(put("c", piece), func(r *api.Record) { r.Pieces[0].N = 0 }), api.ErrRecord},
		"a piece of more than a chunk":    {spoil(put("c", piece), func(r *api.Record) { r.Pieces[0].N = 4097 }), api.ErrRecord},
		"more pieces than may be":         {spoil(put("c"), func(r *api.Record) { r.Pieces = slices.Repeat([]api.Piece{{N: 1}}, 4097) }), api.ErrRecord},
		"more bytes than may be":          {spoil(put("c"), func(r *api.Record) { r.Pieces = slices.Repeat([]api.Piece{{N: 4096}}, 257) }), api.ErrRecord},
		"site 2":                          {spoil(lead(9, 0), func(r *api.Record) { r.Site = 2 }), api.ErrRecord},
		"no record, that does not follow": {spoil(put("c"), func(r *api.Record) { r.Seq, r.Path = 1, "" }), api.ErrRecord},
		"the last one again":              {l[3], api.ErrChain},
		"the first one again":             {l[0], api.ErrChain},
		"one ahead of its turn":           {spoil(put("c"), func(r *api.Record) { r.Seq++ }), api.ErrChain},
		"another chain":                   {spoil(put("c"), func(r *api.Record) { r.Prev[3] ^= 1 }), api.ErrChain},
		"a greater epoch":                 {spoil(put("c"), func(r *api.Record) { r.Epoch++ }), api.ErrChain},
		"a lesser epoch":                  {spoil(put("c"), func(r *api.Record) { r.Epoch-- }), api.ErrChain},
		"a lead of the same epoch":        {spoil(lead(9, 1), func(r *api.Record) { r.Epoch = 2 }), api.ErrChain},
		"no file, and does not follow":    {spoil(deletion("b"), func(r *api.Record) { r.Seq++ }), api.ErrChain},
		"RDelete of no file":              {next(deletion("b")), api.ErrNoFile},
		"RDelete of a path never put":     {next(deletion("aa")), api.ErrNoFile},
	} {
		ends(t, what, a.Take(c.r), c.want)
		if now := state(t, a); now != was {
			t.Errorf("%s:\n%s\nnot\n%s", what, now, was)
		}
	}
	ends(t, "Take", a.Take(next(deletion("a"))), api.OK)
}

func TestTakeOfMoreFilesThanMayBe(t *testing.T) {
	l := rowOf(t, append(append([]api.Record{lead(1, 0)}, many(1024)...), put("p8"))...)
	a := opened(t, diskOf(t, 1100), conf(1060))
	for _, r := range l {
		ends(t, "Take", a.Take(r), api.OK)
	}
	was := filesState(t, a)
	more := rowOf(t, append(slices.Clone(l), put("p1024"))...)[1026]
	ends(t, "Take", a.Take(more), api.ErrMany)
	if a.Head() != headOf(t, l) || filesState(t, a) != was {
		t.Error("something is changed")
	}
	l = rowOf(t, append(l, deletion("p0"), put("p1024"))...)
	ends(t, "Take", a.Take(l[1026]), api.OK)
	ends(t, "Take", a.Take(l[1027]), api.OK)
	tellsRecords(t, a, l)
}

func TestTakeWithoutRoom(t *testing.T) {
	l := rowOf(t, lead(1, 0), put("a"), put("b"), put("c"), deletion("none"))
	a := opened(t, diskOf(t, 20), conf(5))
	for _, r := range l[:3] {
		ends(t, "Take", a.Take(r), api.OK)
	}
	was := state(t, a)
	ends(t, "Take", a.Take(l[3]), api.ErrFull)
	ends(t, "Take that does not follow", a.Take(l[4]), api.ErrChain)
	l = rowOf(t, append(l[:3], deletion("none"))...)
	ends(t, "Take of no file", a.Take(l[3]), api.ErrNoFile)
	if state(t, a) != was {
		t.Errorf("%s\nnot\n%s", state(t, a), was)
	}
	// A record of several blocks goes in whole, or not at all.
	pieces := slices.Repeat([]api.Piece{{N: 1}}, 40)
	l = rowOf(t, lead(1, 0), put("a", pieces...))
	d := diskOf(t, 20)
	a = opened(t, d, conf(5))
	ends(t, "Take", a.Take(l[0]), api.OK)
	m := held(t, d)
	ends(t, "Take", a.Take(l[1]), api.ErrFull)
	if a.Head() != headOf(t, l[:1]) || !alike(held(t, d), m) {
		t.Error("something is changed")
	}
}

func TestGiveAndChunk(t *testing.T) {
	d := diskOf(t, 60)
	a := opened(t, d, conf(20)) // nobody leads, and it takes chunks all the same
	var x chance = 4
	for _, b := range [][]byte{{0}, text(1, 300), x.row(4096), make([]byte, 4096)} {
		_, free := a.Free()
		if digest, e := a.Give(b); digest != sha256.Sum256(b) || e != api.OK {
			t.Errorf("Give of %d bytes: %x, %d", len(b), digest, e)
		}
		if told, e := a.Chunk(sha256.Sum256(b)); !bytes.Equal(told, b) || e != api.OK {
			t.Errorf("Chunk: %d bytes, %d", len(told), e)
		}
		_, now := a.Free()
		if now != free-blocksOf(t, [][]byte{b}) {
			t.Errorf("%d are free, behind %d", now, free)
		}
		fused(t, d, 0)
		if digest, e := a.Give(b); digest != sha256.Sum256(b) || e != api.OK {
			t.Errorf("Give of what is at hand: %x, %d", digest, e)
		}
		fused(t, d, -1)
	}
	was := state(t, a)
	for _, n := range []int{0, 4097, 1 << 20} {
		if digest, e := a.Give(make([]byte, n)); digest != (api.Digest{}) || e != api.ErrChunk {
			t.Errorf("Give of %d bytes: %x, %d", n, digest, e)
		}
	}
	for _, digest := range []api.Digest{{}, sha256.Sum256(nil), sha256.Sum256([]byte{1})} {
		if b, e := a.Chunk(digest); len(b) > 0 || e != api.ErrNone {
			t.Errorf("Chunk of none: %d bytes, %d", len(b), e)
		}
	}
	if state(t, a) != was {
		t.Error("something is changed")
	}
	for e := api.OK; e == api.OK; {
		_, e = a.Give(x.row(3000))
		if e != api.OK && e != api.ErrFull {
			t.Errorf("Give: %d", e)
		}
	}
	if _, free := a.Free(); free > 6 {
		t.Errorf("%d are free", free)
	}
}

func TestWants(t *testing.T) {
	d, a := led(t, 60, api.ArchConf{Log: 30, Roll: even(10)})
	wants(t, a)
	piece := func(k int) api.Piece { return pieceOf(fmt.Append(nil, "chunk ", k)) }
	take := func(r api.Record) {
		t.Helper()
		l := rowOf(t, append(records(t, a), r)...)
		ends(t, "Take", a.Take(l[len(l)-1]), api.OK)
	}
	give := func(k int) {
		t.Helper()
		ends(t, "Give", gives(a, fmt.Append(nil, "chunk ", k)), api.OK)
	}
	take(put("none"))
	wants(t, a)
	take(put("a", piece(1), piece(2), piece(1), piece(3)))
	wants(t, a, piece(1).D, piece(2).D, piece(3).D)
	take(put("b", piece(3), piece(4), piece(2)))
	wants(t, a, piece(1).D, piece(2).D, piece(3).D, piece(4).D)
	give(2)
	wants(t, a, piece(1).D, piece(3).D, piece(4).D)
	give(9) // no file has it
	wants(t, a, piece(1).D, piece(3).D, piece(4).D)
	take(put("a", piece(5)))
	wants(t, a, piece(3).D, piece(4).D, piece(5).D)
	take(deletion("b"))
	wants(t, a, piece(5).D)
	take(put("c", piece(2)))
	wants(t, a, piece(5).D)
	give(5)
	wants(t, a)
	b := []byte("0123456789abcdefghij")
	puts(t, a, "d", b)
	wants(t, a)
	rots(t, d, 30, 60)
	wants(t, a, piece(2).D, piece(5).D, sha256.Sum256(b[:10]), sha256.Sum256(b[10:]))
	give(5)
	wants(t, a, piece(2).D, sha256.Sum256(b[:10]), sha256.Sum256(b[10:]))
	ends(t, "Cut", a.Cut(1), api.OK)
	wants(t, a)
}
