package log_test

import (
	"bytes"
	"encoding/binary"
	"fmt"
	"math"
	"slices"
	"testing"

	"saltern/api"
	"saltern/disk"
	"saltern/log"
	"saltern/record"
)

// P14.1, P14.9

func TestNobodysLog(t *testing.T) {
	r := made(t, api.Head{}, api.Record{Kind: api.RLead, Epoch: 1})
	for _, l := range []*log.Log{nil, {}, new(log.Log)} {
		if l.Broken() || l.Len() != 0 || l.Synced() != 0 || l.Room() != 0 || l.Promise() != 0 || l.Head() != (api.Head{}) || len(l.Records()) != 0 {
			t.Error("it tells something")
		}
		for _, n := range []int{0, 1, -1, math.MaxInt, math.MinInt} {
			if r, e := l.At(n); !record.Same(r, api.Record{}) || e != api.ErrNil {
				t.Errorf("At(%d): %v, %d", n, r, e)
			}
			if h, e := l.HeadAt(n); h != (api.Head{}) || e != api.ErrNil {
				t.Errorf("HeadAt(%d): %v, %d", n, h, e)
			}
			ends(t, "Vow", l.Vow(n), api.ErrNil)
			ends(t, "Cut", l.Cut(n), api.ErrNil)
		}
		ends(t, "Sync", l.Sync(), api.ErrNil)
		appends(t, "nobody's", l, 0, api.ErrNil)
		appends(t, "nobody's", l, 0, api.ErrNil, r)
		appends(t, "nobody's", l, 0, api.ErrNil, api.Record{}, r)
	}
}

func TestOpenOfNobodysDevice(t *testing.T) {
	for _, d := range []*disk.Disk{nil, {}, new(disk.Disk)} {
		for _, x := range []api.Extent{{At: 0, N: 4}, {}, {At: -1, N: 3}, {At: 0, N: 5000}} {
			if l, e := log.Open(d, x); l != nil || e != api.ErrNil {
				t.Errorf("%v: %v, %d", x, l, e)
			}
		}
	}
}

func TestExtentsThatMayNotBe(t *testing.T) {
	for _, n := range []int{4, 9, 4096} {
		m := zeros(n).with(0, bytes.Repeat([]byte("junk"), 128*n))
		d, down := m.device(t), m.device(t)
		lost(t, down, way{})
		l := []api.Extent{
			{}, {At: 0, N: 1}, {At: 0, N: 2}, {At: n - 2, N: 2}, {At: 1, N: -3}, {At: -1, N: 3}, {At: -1, N: n}, {At: -3, N: 3}, {At: 0, N: n + 1}, {At: 1, N: n}, {At: n, N: 3}, {At: n - 1, N: 3}, {At: n - 2, N: 3}, {At: n, N: 0},
		}
		far := []int{math.MaxInt, math.MaxInt - 2, math.MinInt, math.MinInt + 3}
		for _, a := range far {
			l = append(l, api.Extent{At: a, N: 3}, api.Extent{At: 0, N: a}, api.Extent{At: 1, N: a})
			for _, b := range far {
				l = append(l, api.Extent{At: a, N: b})
			}
		}
		for _, x := range l {
			for _, d := range []*disk.Disk{d, down} {
				if l, e := log.Open(d, x); l != nil || e != api.ErrPlace {
					t.Errorf("%v of %d blocks: %v, %d", x, n, l, e)
				}
			}
		}
		holds(t, "wrong extents", d, m, 0)
	}
}

func TestOpenOfADeviceThatIsDown(t *testing.T) {
	d := zeros(4).device(t)
	lost(t, d, way{})
	for _, x := range []api.Extent{{At: 0, N: 4}, {At: 1, N: 3}} {
		if l, e := log.Open(d, x); l != nil || e != api.ErrDown {
			t.Errorf("%v, %d", l, e)
		}
	}
}

func TestOpenOfZeros(t *testing.T) {
	for _, c := range []struct {
		blocks int
		x      api.Extent
	}{
		{4, api.Extent{At: 0, N: 3}}, {4, api.Extent{At: 1, N: 3}}, {4, api.Extent{At: 0, N: 4}}, {9, api.Extent{At: 3, N: 5}},
		{4096, api.Extent{At: 0, N: 4096}}, {4096, api.Extent{At: 4093, N: 3}},
	} {
		d := zeros(c.blocks).device(t)
		fused(t, d, 0)
		tells(t, "zeros", opened(t, d, c.x), state{room: c.x.N - 2})
	}
}

// finds asks that Open does on an image what the chapter's words say, and that it tells what is there.
func finds(t *testing.T, what string, m image, x api.Extent) there {
	t.Helper()
	v := lookedAt(m, x)
	d := m.device(t)
	l := opened(t, d, x)
	tells(t, what, l, v.state(x))
	want := m
	var steps []step
	for i := v.end; i < x.At+x.N && !v.broken; i++ {
		if empty := make([]byte, 512); !bytes.Equal(m[i], empty) {
			want = want.with(i, empty)
			steps = append(steps, step{i, string(empty)})
		}
	}
	if len(steps) > 0 {
		steps = append(steps, step{block: aSync})
	}
	holds(t, what, d, want, 0)
	does(t, what, m, opening(t, m, x), steps)
	if h, n, e := record.Walk(api.Head{}, l.Records()...); h != l.Head() || n != l.Len() || e != api.OK {
		t.Errorf("%s: no chain: %d of %d", what, n, l.Len())
	}
	return v
}

// findsJust asks for so many records, too.
func findsJust(t *testing.T, what string, m image, x api.Extent, n int, broken bool) {
	t.Helper()
	if v := finds(t, what, m, x); len(v.records) != n || v.broken != broken {
		t.Errorf("%s: %d records, broken: %t", what, len(v.records), v.broken)
	}
}

func TestWhatIsFound(t *testing.T) {
	l := rowOf(t, 2, 1, 3, 1, 2)
	all := blocksOf(l...) // blocks 4; 5; 6 to 8; 9; 10 and 11
	m := zeros(16)
	x := api.Extent{At: 2, N: 12}
	other := rowOf(t, 3, 1, 1)
	for _, c := range []struct {
		what string
		m    image
		n    int
	}{
		{"nothing", m, 0},
		{"all", m.with(4, all), 5},
		{"one", m.with(4, blocksOf(l[:1]...)), 1},
		{"zeros within", m.with(4, all).with(9, make([]byte, 512)), 3},
		{"zeros within a record", m.with(4, all).with(7, make([]byte, 512)), 2},
		{"zeros at first", m.with(4, all).with(4, make([]byte, 512)), 0},
		{"a block late", m.with(5, all), 0},
		{"within a record", m.with(3, blocksOf(l[2])), 0},
		{"in the vows' blocks", m.with(2, blocksOf(l[:1]...)), 0},
		{"what goes beyond", m.with(4, blocksOf(rowOf(t, 2, 3, 7)...)), 2},
		{"what goes on up to the end", m.with(4, blocksOf(rowOf(t, 2, 3, 6)...)), 3},
		{"a record behind the end", m.with(4, blocksOf(rowOf(t, 2, 3, 6, 1)...)), 3},
		{"junk behind", m.with(4, all).with(12, []byte("junk")).with(13, []byte("more")).with(14, []byte("outside")), 5},
		{"junk at the last block", m.with(4, blocksOf(l[:2]...)).with(13, append(make([]byte, 511), 1)), 2},
		{"junk outside", m.with(4, all).with(0, []byte("junk")).with(1, []byte("junk")).with(14, []byte("junk")), 5},
		{"a vow behind", m.with(4, all).with(12, vowed(7, 9)), 5},
		{"another row behind zeros", m.with(4, blocksOf(l[:2]...)).with(7, blocksOf(other...)), 2},
		{"the rest behind zeros", m.with(4, blocksOf(l[:2]...)).with(7, blocksOf(l[2:]...)), 2},
	} {
		findsJust(t, c.what, c.m, x, c.n, false)
		findsJust(t, c.what+", and vows", c.m.with(2, vowed(4, 6)).with(3, vowed(5, 7)), x, c.n, false)
	}
}

func TestWhatDoesNotFollow(t *testing.T) {
	l := rowOf(t, 2, 1, 3, 1, 2)
	m := zeros(16)
	x := api.Extent{At: 2, N: 12}
	other := rowOf(t, 3, 1, 3, 1)
	h := headOf(l[:2]...)
	changed := func(by func(r *api.Record)) api.Record {
		r := l[2]
		by(&r)
		return r
	}
	for _, c := range []struct {
		what string
		row  []api.Record
		n    int
	}{
		{"a second one at first", l[1:], 0},
		{"an RPut of Seq 1", []api.Record{{Seq: 1, Epoch: 1, Kind: api.RPut, Path: "a"}}, 0},
		{"another Prev at first", []api.Record{{Seq: 1, Epoch: 1, Prev: api.Digest{1}, Kind: api.RLead}}, 0},
		{"the first one twice", []api.Record{l[0], l[0]}, 1},
		{"one is left out", []api.Record{l[0], l[1], l[3]}, 2},
		{"two in turns", []api.Record{l[0], l[2], l[1]}, 1},
		{"one of another row", []api.Record{l[0], other[1]}, 1},
		{"the next one of another row", []api.Record{l[0], l[1], other[2], l[2]}, 2},
		{"another Seq", []api.Record{l[0], l[1], changed(func(r *api.Record) { r.Seq = 4 })}, 2},
		{"another epoch", []api.Record{l[0], l[1], changed(func(r *api.Record) { r.Epoch = 3 })}, 2},
		{"another Prev", []api.Record{l[0], l[1], changed(func(r *api.Record) { r.Prev[31] ^= 1 })}, 2},
		{"a lead of the same epoch", []api.Record{l[0], l[1], {Seq: 3, Epoch: 2, Prev: h.Chain, Kind: api.RLead}}, 2},
		{"a lead of an elder epoch", []api.Record{l[0], l[1], {Seq: 3, Epoch: 1, Prev: h.Chain, Kind: api.RLead, Site: 1}}, 2},
	} {
		full := m.with(4, blocksOf(c.row...)).with(2, vowed(4, 6))
		findsJust(t, c.what, full, x, c.n, true)
		findsJust(t, c.what+", junk behind", full.with(12, []byte("junk")).with(15, []byte("junk")), x, c.n, true)
		refused(t, c.what, full, x)
	}
	led := []api.Record{l[0], l[1], {Seq: 3, Epoch: 3, Prev: h.Chain, Kind: api.RLead, Site: 1}}
	findsJust(t, "a lead of a greater epoch", m.with(4, blocksOf(led...)), x, 3, false)
}

// refused asks that a broken log takes nothing.
func refused(t *testing.T, what string, m image, x api.Extent) {
	t.Helper()
	d := m.device(t)
	l := opened(t, d, x)
	was := lookedAt(m, x).state(x)
	if e := d.Write(x.At, m[x.At]); e != api.OK { // an open write, which no sync may take
		t.Fatal(e)
	}
	next := made(t, api.Head{Seq: l.Len(), Epoch: 1}, api.Record{Kind: api.RLead, Epoch: 9})
	next.Prev = l.Head().Chain
	for _, n := range []int{0, 1, l.Len(), l.Len() + 1, was.promise, was.promise + 1, -1, 1 << 31} {
		ends(t, what+": Vow", l.Vow(n), api.ErrBroken)
		ends(t, what+": Cut", l.Cut(n), api.ErrBroken)
	}
	ends(t, what+": Sync", l.Sync(), api.ErrBroken)
	appends(t, what, l, 0, api.ErrBroken)
	appends(t, what, l, 0, api.ErrBroken, next)
	appends(t, what, l, 0, api.ErrBroken, api.Record{})
	tells(t, what, l, was)
	holds(t, what, d, m, 1)
	lost(t, d, way{})
	ends(t, what+": Sync, down", l.Sync(), api.ErrBroken)
	tells(t, what+", down", l, was)
}

// Whatever bit of a record's blocks is turned, the log ends ahead of it.
func TestEachBitOfARecord(t *testing.T) {
	l := rowOf(t, 2, 2, 1)
	m := zeros(8).with(2, blocksOf(l...))
	x := api.Extent{At: 0, N: 8}
	for i := range 2 {
		for at := range 512 {
			for bit := range 8 {
				rotten := m.rotten(3+i, at, 1<<bit)
				tells(t, "a bit is turned", opened(t, rotten.device(t), x), state{records: l[:1], synced: 1, room: 5})
				if t.Failed() {
					t.Fatalf("block %d, byte %d, bit %d", 3+i, at, bit)
				}
			}
		}
	}
}

// Blocks that are those of a record but for one thing are none's.
func TestBlocksThatAreNoRecords(t *testing.T) {
	l := rowOf(t, 2, 1)
	h := headOf(l...)
	m := zeros(10).with(2, blocksOf(l...))
	x := api.Extent{At: 0, N: 9}
	full := long(t, h, 472)
	whole := wordedBytes(full)
	sized := func(b []byte, n uint32) []byte {
		b = bytes.Clone(b)
		binary.LittleEndian.PutUint32(b[4:], n)
		return b
	}
	for what, b := range map[string][]byte{
		"no bytes":                 framed(nil),
		"one byte":                 framed([]byte("R")),
		"a byte fewer":             framed(whole[:471]),
		"a byte more":              framed(append(bytes.Clone(whole), 0)),
		"a block more":             append(framed(whole[:300]), make([]byte, 512)...),
		"a kind that is none":      framed(append([]byte{'R', 4}, whole[2:]...)),
		"no R":                     framed(append([]byte{'r'}, whole[1:]...)),
		"Seq 0":                    framed(append([]byte{'R', 2, 0}, whole[3:]...)),
		"a size of 0":              sized(framed(whole), 0),
		"a size that is less":      sized(framed(whole), 471),
		"a size that is more":      sized(framed(whole), 473),
		"a size of all blocks":     sized(framed(whole), 5*512-40),
		"a size beyond all blocks": sized(framed(whole), 5*512-39),
		"the greatest size":        sized(framed(whole), math.MaxUint32),
		"2^31":                     sized(framed(whole), 1<<31),
		"2^32 less 40":             sized(framed(whole), math.MaxUint32-39),
		"2^32 less 39":             sized(framed(whole), math.MaxUint32-38),
		"the mark alone":           []byte("SLOG"),
		"a mark in small letters":  append([]byte("slog"), framed(whole)[4:]...),
		"another mark":             append([]byte("SVOW"), framed(whole)[4:]...),
		"a sum of all":             append(append([]byte("SLOG\xd8\x01\x00\x00"), make([]byte, 32)...), whole...),
	} {
		findsJust(t, what, m.with(4, b), x, 2, false)
	}
	if v := finds(t, "the whole one", m.with(4, framed(whole)), x); len(v.records) != 3 || v.end != 5 {
		t.Errorf("the whole one: %d records, up to %d", len(v.records), v.end)
	}
}

// A record of as many bytes as there may be, and one of more bytes than are parsed.
func TestTheGreatestRecord(t *testing.T) {
	first := made(t, api.Head{}, api.Record{Kind: api.RLead, Epoch: 1 << 30})
	var l []api.Piece
	for i := range 4096 {
		l = append(l, api.Piece{D: api.Digest{byte(i), byte(i >> 8)}, N: 256})
	}
	great := made(t, headOf(first), api.Record{Kind: api.RPut, Path: fmt.Sprintf("%0255d", 7), Pieces: l})
	m := zeros(600).with(2, blocksOf(first, great))
	x := api.Extent{At: 0, N: 600}
	if v := lookedAt(m, x); len(v.records) != 2 || v.end != 3+(40+len(wordedBytes(great))+511)/512 {
		t.Fatalf("%d records up to %d", len(v.records), v.end)
	}
	d := m.device(t)
	fused(t, d, 0)
	tells(t, "found", opened(t, d, x), lookedAt(m, x).state(x))
	d, e := disk.New(600)
	ends(t, "New", e, api.OK)
	a := opened(t, d, x)
	appends(t, "laid", a, 2, api.OK, first, great)
	holds(t, "laid", d, m, 1+len(blocksOf(great))/512)
	long := zeros(600).with(2, blocksOf(first)).with(3, framed(make([]byte, 1<<18+1)))
	b := opened(t, long.device(t), x)
	tells(t, "2^18 bytes and one", b, state{records: []api.Record{first}, synced: 1, room: 597})
}

func TestAFullRow(t *testing.T) {
	d, l := fresh(t, 4096)
	var all []api.Record
	h := api.Head{}
	for k := range 4094 {
		r := made(t, h, api.Record{Kind: api.RLead, Epoch: k + 1, Site: k % 2})
		all = append(all, r)
		h = headOf(r)
	}
	appends(t, "one by one", l, 4094, api.OK, all...)
	appends(t, "no room", l, 0, api.ErrFull, made(t, h, api.Record{Kind: api.RDelete, Path: "a"}))
	tells(t, "full", l, state{records: all})
	ends(t, "Sync", l.Sync(), api.OK)
	tells(t, "synced", l, state{records: all, synced: 4094})
	fused(t, d, 0)
	tells(t, "anew", opened(t, d, api.Extent{At: 0, N: 4096}), state{records: all, synced: 4094})
	fused(t, d, -1)
	ends(t, "Cut", l.Cut(1), api.OK)
	tells(t, "cut", l, state{records: all[:1], synced: 1, room: 4093})
	holds(t, "cut", d, zeros(4096).with(2, blocksOf(all[0])), 0)
}

func TestWhatIsBehindTheEndIsCleared(t *testing.T) {
	l := rowOf(t, 2, 1)
	x := api.Extent{At: 1, N: 9}
	m := zeros(12).with(3, blocksOf(l...))
	junk := []byte("junk")
	for set := range 1 << 5 {
		dirty := m.with(0, junk).with(10, junk).with(11, junk)
		for k := range 5 {
			if set>>k&1 == 1 {
				dirty = dirty.with(5+k, append(make([]byte, 100*k+99), 1))
			}
		}
		findsJust(t, "junk behind", dirty, x, 2, false)
	}
}

func TestOneByteAnywhereIsCleared(t *testing.T) {
	for at := range 512 {
		m := zeros(5).with(4, append(make([]byte, at), 1))
		d := m.device(t)
		fused(t, d, 2)
		tells(t, "one byte", opened(t, d, api.Extent{At: 1, N: 4}), state{room: 2})
		ends(t, "a third step", d.Write(0, nil), api.ErrDark)
		holds(t, "one byte", d, zeros(5), 0)
	}
}

func TestOpenOfAnyImage(t *testing.T) {
	c := chance(14)
	a, b := rowOf(t, 2, 1, 2, 1, 3), rowOf(t, 2, 1, 2, 2)
	b[0].Site = 1
	for k := 1; k < len(b); k++ {
		b[k] = made(t, headOf(b[:k]...), b[k])
	}
	parts := [][]byte{{0}, {0}, {1}, []byte("SLOG"), []byte("SVOW"), vowed(3, 1), vowed(5, 2), vowed(4, 2), vowed(1<<30+1, 7)}
	for _, r := range slices.Concat(a, b) {
		whole := blocksOf(r)
		rotten := bytes.Clone(whole)
		rotten[c.below(len(whole))] ^= 0x13
		parts = append(parts, whole, whole, rotten)
	}
	broken := 0
	for range 1000 {
		m := zeros(20)
		at := c.below(17)
		x := api.Extent{At: at, N: 3 + c.below(18-at)}
		m = m.with(x.At+c.below(2), parts[c.below(9)])
		row := blocksOf([][]api.Record{a, b}[c.below(2)][:c.below(5)]...)
		m = m.with(x.At+2, row[:min(len(row), 512*(18-at))])
		for range c.below(4) {
			p := parts[c.below(len(parts))]
			m = m.with(c.below(20-(len(p)-1)/512), p)
		}
		if finds(t, "any", m, x).broken {
			broken++
		}
	}
	if broken < 50 || broken > 700 {
		t.Errorf("%d are broken", broken)
	}
}

func TestOpenEndsAtADevicesError(t *testing.T) {
	m := zeros(8).with(2, []byte("junk")).with(5, []byte("junk"))
	for n := range 4 {
		d, call := opening(t, m, api.Extent{At: 0, N: 8})()
		fused(t, d, n)
		want := api.ErrDark
		if n == 3 {
			want = api.OK
		}
		ends(t, "Open", call(), want)
	}
}

func TestACopyIsTheSameLog(t *testing.T) {
	_, l := fresh(t, 8)
	c := *l
	row := rowOf(t, 2, 1, 1)
	appends(t, "the first", l, 1, api.OK, row[0])
	appends(t, "the copy", &c, 1, api.OK, row[1])
	ends(t, "Vow", c.Vow(5), api.OK)
	want := state{records: row[:2], synced: 2, room: 4, promise: 5}
	tells(t, "the first", l, want)
	tells(t, "the copy", &c, want)
}

func TestTwoLogsOnOneDevice(t *testing.T) {
	d := zeros(16).device(t)
	low, high := api.Extent{At: 1, N: 6}, api.Extent{At: 7, N: 8}
	a, b := opened(t, d, low), opened(t, d, high)
	one, two := rowOf(t, 2, 1, 2), rowOf(t, 3, 5)
	appends(t, "low", a, 3, api.OK, one...)
	ends(t, "high: Vow", b.Vow(7), api.OK)
	appends(t, "high", b, 2, api.OK, two...)
	ends(t, "low: Vow", a.Vow(4), api.OK)
	tells(t, "low", a, state{records: one, synced: 3, promise: 4})
	tells(t, "high", b, state{records: two, promise: 7})
	m := zeros(16).with(2, vowed(4, 1)).with(3, blocksOf(one...)).with(8, vowed(7, 1)).with(9, blocksOf(two...))
	holds(t, "both", d, m, 0)
	tells(t, "high, anew", opened(t, d, high), state{records: two, synced: 2, promise: 7})
	ends(t, "low: Cut", a.Cut(0), api.OK)
	holds(t, "low is cut", d, m.with(3, make([]byte, 4*512)), 0)
	tells(t, "high", b, state{records: two, promise: 7})
}
