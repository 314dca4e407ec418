package log_test

import (
	"math"
	"slices"
	"testing"

	"saltern/api"
	"saltern/disk"
	"saltern/log"
	"saltern/record"
)

// P14.2, P14.4

func TestRecordsOneByOne(t *testing.T) {
	x := api.Extent{At: 1, N: 20}
	m := zeros(24).with(0, []byte("outside")).with(21, []byte("outside"))
	d := m.device(t)
	l := opened(t, d, x)
	row := rowOf(t, 2, 1, 3, 1, 2, 5)
	at, synced := 3, 0
	for k, r := range row {
		appends(t, "one", l, 1, api.OK, r)
		m = m.with(at, blocksOf(r))
		at += len(blocksOf(r)) / 512
		holds(t, "laid", d, m, len(blocksOf(row[synced:k+1]...))/512)
		tells(t, "laid", l, state{records: row[:k+1], synced: synced, room: 21 - at})
		if k%2 == 1 {
			ends(t, "Sync", l.Sync(), api.OK)
			synced = k + 1
			holds(t, "synced", d, m, 0)
			tells(t, "synced", l, state{records: row[:synced], synced: synced, room: 21 - at})
		}
	}
	if synced != 6 {
		t.Fatalf("%d are synced", synced)
	}
	tells(t, "anew", opened(t, lost(t, d, way{}), x), state{records: row, synced: 6, room: 21 - at})
}

func TestRecordsAtOnce(t *testing.T) {
	row := rowOf(t, 2, 1, 3, 1, 2, 5)
	for k := range len(row) + 1 {
		d, l := fresh(t, 20)
		appends(t, "the first ones", l, k, api.OK, row[:k]...)
		appends(t, "the others", l, len(row)-k, api.OK, row[k:]...)
		tells(t, "all", l, state{records: row, room: 5})
		holds(t, "all", d, zeros(20).with(2, blocksOf(row...)), 13)
	}
}

func TestAppendDoesJustWrites(t *testing.T) {
	row := rowOf(t, 2, 1, 3, 1, 2)
	x := api.Extent{At: 1, N: 14}
	for k := range len(row) {
		m := zeros(16).with(3, blocksOf(row[:k]...))
		at := 3 + len(blocksOf(row[:k]...))/512
		for n := k; n <= len(row); n++ {
			does(t, "Append", m, appending(t, m, x, false, row[k:n]...), writing(at, blocksOf(row[k:n]...)))
			steps := append(writing(at, blocksOf(row[k:n]...)), step{block: aSync})
			does(t, "Append and Sync", m, appending(t, m, x, true, row[k:n]...), steps)
		}
	}
}

// appending is a task: Append to the log of an image, one behind the other, and perhaps Sync. Where a device's error ends it, so many records must be there as were laid whole.
func appending(t *testing.T, m image, x api.Extent, sync bool, rs ...api.Record) task {
	t.Helper()
	return func() (*disk.Disk, func() api.Errno) {
		d := m.device(t)
		l := opened(t, d, x)
		was := lookedAt(m, x)
		return d, func() api.Errno {
			n, e := l.Append(rs...)
			now := was.state(x)
			now.records = slices.Concat(was.records, rs[:n])
			now.room -= len(blocksOf(rs[:n]...)) / 512
			tells(t, "behind Append", l, now)
			if want := wholeOf(rs, d.Open()); e != api.OK && n != want {
				t.Errorf("%d are laid, not %d", n, want)
			}
			if e != api.OK || !sync {
				return e
			}
			if e = l.Sync(); e == api.OK {
				now.synced = len(now.records)
			}
			tells(t, "behind Sync", l, now)
			return e
		}
	}
}

// wholeOf is how many records are whole in so many blocks.
func wholeOf(rs []api.Record, blocks int) int {
	n := 0
	for n < len(rs) && len(blocksOf(rs[:n+1]...))/512 <= blocks {
		n++
	}
	return n
}

func TestAppendOfNone(t *testing.T) {
	for _, row := range [][]api.Record{nil, rowOf(t, 2), rowOf(t, 2, 1)} {
		d, l := fresh(t, 4)
		appends(t, "some", l, len(row), api.OK, row...)
		fused(t, d, 0)
		want := state{records: row, room: 2 - len(row)}
		appends(t, "none", l, 0, api.OK)
		appends(t, "none", l, 0, api.OK, []api.Record{}...)
		tells(t, "none", l, want)
		lost(t, d, way{})
		appends(t, "none, down", l, 0, api.OK)
		tells(t, "none, down", l, want)
	}
}

// The first block has 472 bytes of a record, each further one 512.
func TestRecordsThatFillTheirBlocks(t *testing.T) {
	lead := made(t, api.Head{}, api.Record{Kind: api.RLead, Epoch: 1})
	h := headOf(lead)
	for _, c := range []struct{ bytes, blocks int }{
		{39, 1}, {471, 1}, {472, 1}, {473, 2}, {511, 2}, {512, 2}, {983, 2}, {984, 2}, {985, 3}, {1496, 3}, {1497, 4}, {512*9 - 40, 9}, {512*9 - 39, 10},
	} {
		r := long(t, h, c.bytes)
		if b, e := record.Bytes(r); len(b) != c.bytes || e != api.OK {
			t.Fatalf("%d bytes, not %d", len(b), c.bytes)
		}
		for spare := range 2 {
			n := max(3+c.blocks+spare, 4)
			d, l := fresh(t, n)
			appends(t, "both", l, 2, api.OK, lead, r)
			want := state{records: []api.Record{lead, r}, room: n - 3 - c.blocks}
			tells(t, "both", l, want)
			holds(t, "both", d, zeros(n).with(2, blocksOf(lead, r)), 1+c.blocks)
			ends(t, "Sync", l.Sync(), api.OK)
			want.synced = 2
			fused(t, d, 0)
			tells(t, "anew", opened(t, d, api.Extent{At: 0, N: n}), want)
		}
		if n := 3 + c.blocks - 1; n >= 4 {
			d, l := fresh(t, n)
			appends(t, "a block is missing", l, 1, api.ErrFull, lead, r)
			tells(t, "a block is missing", l, state{records: []api.Record{lead}, room: n - 3})
			holds(t, "a block is missing", d, zeros(n).with(2, blocksOf(lead)), 1)
		}
	}
}

func TestThreeBlocks(t *testing.T) {
	for at := range 2 {
		x := api.Extent{At: at, N: 3}
		d := zeros(4).device(t)
		l := opened(t, d, x)
		tells(t, "empty", l, state{room: 1})
		row := rowOf(t, 2, 1)
		appends(t, "both", l, 1, api.ErrFull, row...)
		want := state{records: row[:1]}
		tells(t, "full", l, want)
		appends(t, "once more", l, 0, api.ErrFull, row[1])
		tells(t, "full", l, want)
		ends(t, "Sync", l.Sync(), api.OK)
		d = lost(t, d, way{})
		l = opened(t, d, x)
		want.synced = 1
		tells(t, "anew", l, want)
		ends(t, "Cut", l.Cut(0), api.OK)
		tells(t, "cut", l, state{room: 1})
		appends(t, "anew", l, 1, api.OK, made(t, api.Head{}, api.Record{Kind: api.RLead, Epoch: 9, Site: 1}))
		holds(t, "anew", d, zeros(4).with(at+2, blocksOf(l.Records()...)), 1)
	}
}

// A log of four blocks has two for records, by the words of P14.4; the chapter's example tells of one.
func TestFourBlocks(t *testing.T) {
	_, l := fresh(t, 4)
	lead := made(t, api.Head{}, api.Record{Kind: api.RLead, Epoch: 1})
	appends(t, "one of 473 bytes behind another", l, 1, api.ErrFull, lead, long(t, headOf(lead), 473))
	appends(t, "one of 472 bytes", l, 1, api.OK, long(t, headOf(lead), 472))
	appends(t, "a third one", l, 0, api.ErrFull, made(t, l.Head(), api.Record{Kind: api.RDelete, Path: "a"}))
}

func TestWrongRecords(t *testing.T) {
	row := rowOf(t, 2, 1, 1, 1)
	h := headOf(row[:2]...)
	put := func(by func(r *api.Record)) api.Record {
		r := made(t, h, api.Record{Kind: api.RPut, Path: "a", Pieces: pieces(2, 1)})
		by(&r)
		return r
	}
	for _, c := range []struct {
		what string
		r    api.Record
		want api.Errno
	}{
		{"the zero one", api.Record{}, api.ErrRecord},
		{"no kind", put(func(r *api.Record) { r.Kind = 0 }), api.ErrRecord},
		{"kind 4", put(func(r *api.Record) { r.Kind = 4 }), api.ErrRecord},
		{"a site", put(func(r *api.Record) { r.Site = 1 }), api.ErrRecord},
		{"no path", put(func(r *api.Record) { r.Path = "" }), api.ErrRecord},
		{"a path that is none", put(func(r *api.Record) { r.Path = "a b" }), api.ErrRecord},
		{"a piece of 0 bytes", put(func(r *api.Record) { r.Pieces[1].N = 0 }), api.ErrRecord},
		{"a piece of 4097 bytes", put(func(r *api.Record) { r.Pieces[0].N = 4097 }), api.ErrRecord},
		{"too many pieces", put(func(r *api.Record) { r.Pieces = pieces(4097, 1) }), api.ErrRecord},
		{"Seq 0", put(func(r *api.Record) { r.Seq = 0 }), api.ErrRecord},
		{"Seq beyond 2^30", put(func(r *api.Record) { r.Seq = 1<<30 + 1 }), api.ErrRecord},
		{"the least Seq", put(func(r *api.Record) { r.Seq = math.MinInt }), api.ErrRecord},
		{"epoch 0", put(func(r *api.Record) { r.Epoch = 0 }), api.ErrRecord},
		{"an epoch beyond 2^30", put(func(r *api.Record) { r.Epoch = 1<<30 + 1 }), api.ErrRecord},
		{"Seq 2", put(func(r *api.Record) { r.Seq = 2 }), api.ErrChain},
		{"Seq 4", put(func(r *api.Record) { r.Seq = 4 }), api.ErrChain},
		{"an elder epoch", put(func(r *api.Record) { r.Epoch = 1 }), api.ErrChain},
		{"a newer epoch", put(func(r *api.Record) { r.Epoch = 3 }), api.ErrChain},
		{"another Prev", put(func(r *api.Record) { r.Prev[0] ^= 1 }), api.ErrChain},
		{"the last one again", row[1], api.ErrChain},
		{"the first one again", row[0], api.ErrChain},
		{"the one after the next", row[3], api.ErrChain},
		{"a lead of the same epoch", api.Record{Seq: 3, Epoch: 2, Prev: h.Chain, Kind: api.RLead}, api.ErrChain},
	} {
		for n := range 3 { // wrong at the first place, at the second, at the third
			d, l := fresh(t, 12)
			appends(t, "some", l, 2-n, api.OK, row[:2-n]...)
			rs := append(slices.Clone(row[2-n:2]), c.r, row[2])
			appends(t, c.what, l, n, c.want, rs...)
			tells(t, c.what, l, state{records: row[:2], room: 8})
			holds(t, c.what, d, zeros(12).with(2, blocksOf(row[:2]...)), 2)
			appends(t, c.what+", then the right one", l, 1, api.OK, row[2])
		}
	}
	_, l := fresh(t, 12)
	appends(t, "an RPut at first", l, 0, api.ErrChain, api.Record{Seq: 1, Epoch: 1, Kind: api.RPut, Path: "a"})
	appends(t, "Seq 2 at first", l, 0, api.ErrChain, row[1])
	tells(t, "nothing", l, state{room: 10})
}

// A record that may not be, or does not follow, is told ahead of the room.
func TestWrongRecordsOfAFullLog(t *testing.T) {
	row := rowOf(t, 2, 1)
	_, l := fresh(t, 4)
	appends(t, "full", l, 2, api.OK, row...)
	appends(t, "none", l, 0, api.ErrRecord, api.Record{})
	appends(t, "the last one", l, 0, api.ErrChain, row[1])
	appends(t, "a right one", l, 0, api.ErrFull, made(t, headOf(row...), api.Record{Kind: api.RLead, Epoch: 3}))
	tells(t, "full", l, state{records: row})
}

func TestAFullLogTakesWhatIsSmaller(t *testing.T) {
	row := rowOf(t, 2, 4)
	_, l := fresh(t, 10)
	appends(t, "some", l, 2, api.OK, row...)
	appends(t, "too great", l, 0, api.ErrFull, wide(t, headOf(row...), 4))
	small := wide(t, headOf(row...), 3)
	appends(t, "just as great", l, 1, api.OK, small)
	tells(t, "full", l, state{records: append(row, small)})
}

func TestNothingIsShared(t *testing.T) {
	d, l := fresh(t, 8)
	row := rowOf(t, 2, 1, 1)
	given := slices.Clone(row)
	for i := range given {
		given[i].Pieces = slices.Clone(row[i].Pieces)
	}
	appends(t, "all", l, 3, api.OK, given...)
	if !same(given, row) {
		t.Error("what was handed in is changed")
	}
	for i := range given {
		clear(given[i].Pieces)
	}
	clear(given)
	want := state{records: row, room: 3}
	tells(t, "what was handed in is changed", l, want)
	for _, l := range []*log.Log{l, opened(t, d, api.Extent{At: 0, N: 8})} {
		for seq := 1; seq <= 3; seq++ {
			r, _ := l.At(seq)
			clear(r.Pieces)
		}
		all := l.Records()
		for i := range all {
			clear(all[i].Pieces)
			all[i].Pieces = append(all[i].Pieces, api.Piece{N: 7})
		}
		clear(all)
		want.synced = l.Synced()
		tells(t, "answers are changed", l, want)
	}
}

func TestPlacesOutOfRange(t *testing.T) {
	for _, row := range [][]api.Record{nil, rowOf(t, 2), rowOf(t, 2, 1, 1)} {
		_, l := fresh(t, 8)
		appends(t, "some", l, len(row), api.OK, row...)
		for _, seq := range []int{-1, -2, len(row) + 1, 1 << 30, 1 << 32, 1<<32 + 1, math.MaxInt, math.MinInt} {
			if r, e := l.At(seq); !record.Same(r, api.Record{}) || e != api.ErrRange {
				t.Errorf("At(%d): Seq %d, %d", seq, r.Seq, e)
			}
			if h, e := l.HeadAt(seq); h != (api.Head{}) || e != api.ErrRange {
				t.Errorf("HeadAt(%d): %v, %d", seq, h, e)
			}
			ends(t, "Cut", l.Cut(seq), api.ErrRange)
		}
		tells(t, "some", l, state{records: row, room: 6 - len(row)})
	}
}

func TestSync(t *testing.T) {
	row := rowOf(t, 2, 1)
	d, l := fresh(t, 8)
	ends(t, "of nothing", l.Sync(), api.OK)
	appends(t, "both", l, 2, api.OK, row...)
	fused(t, d, 0)
	ends(t, "dark", l.Sync(), api.ErrDark)
	tells(t, "dark", l, state{records: row, room: 4})
	fused(t, d, 1)
	ends(t, "one step", l.Sync(), api.OK)
	tells(t, "synced", l, state{records: row, synced: 2, room: 4})
	ends(t, "Sync takes a step each time", l.Sync(), api.ErrDark)
	tells(t, "dark again", l, state{records: row, synced: 2, room: 4})
	lost(t, d, way{})
	ends(t, "down", l.Sync(), api.ErrDown)
	appends(t, "down", l, 0, api.ErrDown, wide(t, headOf(row...), 2))
	tells(t, "down", l, state{records: row, synced: 2, room: 4})
}

// A device that has no room for open writes ends Append, which tells how many records it had laid.
func TestTooManyOpenWrites(t *testing.T) {
	d := zeros(16).device(t)
	x := api.Extent{At: 1, N: 15}
	l := opened(t, d, x)
	for range 65536 - 4 {
		if e := d.Write(0, []byte("x")); e != api.OK {
			t.Fatal(e)
		}
	}
	row := rowOf(t, 2, 1, 3, 1)
	appends(t, "a third one has no room", l, 2, api.ErrMany, row...)
	tells(t, "two are laid", l, state{records: row[:2], room: 11})
	ends(t, "Vow", l.Vow(3), api.ErrMany)
	ends(t, "Cut", l.Cut(1), api.ErrMany)
	tells(t, "two are laid", l, state{records: row[:2], room: 11})
	ends(t, "Sync", l.Sync(), api.OK)
	appends(t, "the others", l, 2, api.OK, row[2:]...)
	ends(t, "Sync", l.Sync(), api.OK)
	want := state{records: row, synced: 4, room: 7}
	tells(t, "all", l, want)
	tells(t, "anew", opened(t, d, x), want)
}
