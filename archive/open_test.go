package archive_test

import (
	"bytes"
	"math"
	"slices"
	"strconv"
	"testing"

	"saltern/api"
	"saltern/archive"
	"saltern/disk"
	"saltern/log"
	"saltern/record"
	"saltern/store"
)

// P17.1

// refuses asks that Open tells an error, and nothing else.
func refuses(t *testing.T, what string, d *disk.Disk, c api.ArchConf, want api.Errno) {
	t.Helper()
	if a, e := archive.Open(d, c); a != nil || e != want {
		t.Errorf("%s: %v, %d, not %d", what, a, e, want)
	}
}

// wrongRolls are ways to cut that may not be.
func wrongRolls() []api.RollConf {
	return []api.RollConf{{}, {Least: 0, Most: 9, Bits: 1}, {Least: -1, Most: 9}, {Least: 9, Most: 8}, {Least: 1, Most: 4097}, {Least: 1, Most: 9, Bits: -1}, {Least: 1, Most: 9, Bits: 21}, {Least: 1, Most: math.MaxInt}}
}

// wrongLogs are numbers of blocks that no log has.
func wrongLogs() []int {
	return []int{math.MinInt, -4096, -3, -1, 0, 1, 2, 4097, 1 << 20, math.MaxInt}
}

func TestOpenOfADeviceThatNobodyMade(t *testing.T) {
	for _, c := range []api.ArchConf{conf(3), {}, {Log: 3}, {Log: -1, Roll: even(1)}} {
		refuses(t, "nil", nil, c, api.ErrNil)
		refuses(t, "zero", &disk.Disk{}, c, api.ErrNil)
	}
}

func TestOpenOfSettingsThatMayNotBe(t *testing.T) {
	for _, blocks := range []int{4, 5, 60, 4096} {
		d := diskOf(t, blocks)
		for _, n := range append(wrongLogs(), blocks, blocks+1) {
			refuses(t, "Log "+strconv.Itoa(n), d, conf(n), api.ErrArch)
		}
		for _, w := range wrongRolls() {
			refuses(t, "Roll", d, api.ArchConf{Log: 3, Roll: w}, api.ErrArch)
		}
		fused(t, d, 0)
		for _, n := range []int{3, blocks - 1} {
			opened(t, d, conf(n))
		}
		for _, w := range []api.RollConf{{Least: 1, Most: 1}, {Least: 1, Most: 4096, Bits: 20}, {Least: 4096, Most: 4096}} {
			opened(t, d, api.ArchConf{Log: 3, Roll: w})
		}
	}
}

func TestOpenTellsTheErrorsOfLogAndStore(t *testing.T) {
	d := diskOf(t, 20)
	if _, e := d.Lose(nil, -1, 0); e != api.OK {
		t.Fatal(e)
	}
	refuses(t, "a device that is down", d, conf(8), api.ErrDown)
	refuses(t, "a device that is down, settings that may not be", d, conf(20), api.ErrArch)
	for _, c := range []struct {
		what string
		at   int
		log  int
		fuse int
		want api.Errno
	}{
		{"nothing to write", 7, 8, 0, api.ErrDark},
		{"the log's last block", 7, 8, 1, api.ErrDark},
		{"the log's last block, and a sync", 7, 8, 2, api.OK},
		{"the store's first block", 8, 8, 0, api.ErrDark},
		{"the store's first block", 8, 8, 1, api.ErrDark},
		{"the store's first block, and a sync", 8, 8, 2, api.OK},
		{"the vows' blocks", 1, 8, 0, api.OK},
	} {
		d := zeros(20).with(c.at, []byte("junk")).device(t)
		fused(t, d, c.fuse)
		if c.want == api.OK {
			opened(t, d, conf(c.log))
		} else {
			refuses(t, c.what, d, conf(c.log), c.want)
		}
	}
	m := zeros(20).with(7, []byte("junk")).with(8, []byte("junk"))
	d = m.device(t)
	fused(t, d, 2)
	refuses(t, "the log's alone", d, conf(8), api.ErrDark)
	if !alike(held(t, d), zeros(20).with(8, []byte("junk"))) {
		t.Error("the store goes ahead of the log")
	}
}

func TestOpenOfADeviceThatNobodyWroteTo(t *testing.T) {
	for _, blocks := range []int{4, 5, 60, 4096} {
		for _, n := range []int{3, (blocks + 2) / 2, blocks - 1} {
			d := diskOf(t, blocks)
			fused(t, d, 0)
			a := opened(t, d, conf(n))
			room, free := a.Free()
			if a.Broken() || a.Head() != (api.Head{}) || a.Promise() != 0 || room != n-2 || free != blocks-n {
				t.Errorf("%d of %d: %t, %v, %d, %d, %d", n, blocks, a.Broken(), a.Head(), a.Promise(), room, free)
			}
			if files, e := a.List(""); len(files) != 0 || e != api.OK {
				t.Errorf("List: %d, %d", len(files), e)
			}
			tellsRecords(t, a, nil)
			if d.Open() != 0 || !alike(held(t, d), zeros(blocks)) {
				t.Error("something is written")
			}
		}
	}
}

// tellsRecords asks Head, HeadAt and At of all numbers that there are, and of some that there are not.
func tellsRecords(t *testing.T, a *archive.Archive, l []api.Record) {
	t.Helper()
	if a.Head() != headOf(t, l) {
		t.Errorf("Head: %v", a.Head())
	}
	for seq := range len(l) + 1 {
		if h, e := a.HeadAt(seq); h != headOf(t, l[:seq]) || e != api.OK {
			t.Errorf("HeadAt(%d): %v, %d", seq, h, e)
		}
		if seq == 0 {
			continue
		}
		if r, e := a.At(seq); !record.Same(r, l[seq-1]) || e != api.OK {
			t.Errorf("At(%d): %v, %d", seq, r, e)
		}
	}
	for _, seq := range []int{math.MinInt, -1, 0, len(l) + 1, math.MaxInt} {
		if r, e := a.At(seq); !record.Same(r, api.Record{}) || e != api.ErrRange {
			t.Errorf("At(%d): %v, %d", seq, r, e)
		}
		if h, e := a.HeadAt(seq); seq != 0 && (h != api.Head{} || e != api.ErrRange) {
			t.Errorf("HeadAt(%d): %v, %d", seq, h, e)
		}
	}
}

func TestOpenFindsWhatIsThere(t *testing.T) {
	for _, n := range []int{14, 50} {
		d, a := led(t, 90, conf(n))
		puts(t, a, "a", text(1, 700))
		puts(t, a, "b", text(2, 900))
		deletes(t, a, "a")
		puts(t, a, "b/c", text(1, 500))
		ends(t, "Vow", a.Vow(5), api.OK)
		was := state(t, a)
		fused(t, d, 0)
		again := opened(t, d, conf(n))
		if now := state(t, again); now != was || again.Promise() != 5 || again.Head().Seq != 5 {
			t.Errorf("opened anew:\n%s\nnot\n%s", now, was)
		}
		tellsRecords(t, again, records(t, a))
		l, e := log.Open(d, api.Extent{At: 0, N: n})
		if e != api.OK || !slices.EqualFunc(l.Records(), records(t, a), record.Same) || l.Promise() != 5 {
			t.Errorf("the log's blocks: %d records, %d", l.Len(), e)
		}
		s, e := store.Open(d, api.Extent{At: n, N: 90 - n})
		if e != api.OK || len(s.List()) == 0 {
			t.Fatalf("the store's blocks: %d chunks, %d", len(s.List()), e)
		}
		room, free := again.Free()
		if room != l.Room() || free != s.Free() {
			t.Errorf("Free: %d, %d, not %d, %d", room, free, l.Room(), s.Free())
		}
		for _, x := range s.List() {
			want, _ := s.Get(x)
			if b, e := again.Chunk(x); !bytes.Equal(b, want) || e != api.OK {
				t.Errorf("Chunk: %d bytes, %d", len(b), e)
			}
		}
	}
}

// The settings of a roll play no part in what is there.
func TestOpenWithAnotherWayToCut(t *testing.T) {
	d, a := led(t, 90, conf(20))
	b := text(3, 2000)
	puts(t, a, "a", b)
	a = opened(t, d, api.ArchConf{Log: 20, Roll: even(1000)})
	reads(t, a, "a", 0, len(b), b)
	puts(t, a, "b", b)
	reads(t, a, "b", 0, len(b), b)
	if f, e := a.Stat("b"); len(f.Pieces) != 2 || e != api.OK {
		t.Errorf("%d pieces, %d", len(f.Pieces), e)
	}
}

// written is a device of blocks with records that a log of the first n has, whatever namespace they make.
func written(t *testing.T, blocks, n int, l []api.Record) *disk.Disk {
	t.Helper()
	d := diskOf(t, blocks)
	k, e := log.Open(d, api.Extent{At: 0, N: n})
	if e != api.OK {
		t.Fatal(e)
	}
	ends(t, "Vow", k.Vow(2), api.OK)
	if n, e := k.Append(l...); n != len(l) || e != api.OK {
		t.Fatalf("Append: %d of %d, %d", n, len(l), e)
	}
	ends(t, "Sync", k.Sync(), api.OK)
	return d
}

// many are n RPuts of paths of their own.
func many(n int) []api.Record {
	var l []api.Record
	for i := range n {
		l = append(l, put("p"+strconv.Itoa(i)))
	}
	return l
}

// spoilt is what a device holds whose archive is broken, and which records are found there.
type spoilt struct {
	m     image
	found []api.Record
}

// breaks are some, with a log of n blocks.
func breaks(t *testing.T, blocks, n int) map[string]spoilt {
	t.Helper()
	chunk := []byte("a chunk")
	row := rowOf(t, lead(2, 0), put("a", pieceOf(chunk)), put("b"), deletion("a"))
	other := rowOf(t, lead(2, 0), put("x", pieceOf(chunk)), put("b"), deletion("a"))
	good := held(t, written(t, blocks, n, row))
	l := map[string]spoilt{
		"another record":        {good.with(3, held(t, written(t, blocks, n, other))[3]), other[:2]},
		"an elder record again": {good.with(5, good[4]), row[:3]},
		"no first record":       {good.with(2, good[3]), nil},
	}
	for what, rs := range map[string][]api.Record{
		"RDelete of no file":      {lead(2, 0), deletion("a")},
		"RDelete twice":           {lead(2, 0), put("a"), put("b"), deletion("a"), deletion("a")},
		"RDelete of another path": {lead(2, 0), put("a"), deletion("aa"), put("aa")},
	} {
		rs = rowOf(t, rs...)
		l[what] = spoilt{held(t, written(t, blocks, n, rs)), rs}
	}
	return l
}

func TestBroken(t *testing.T) {
	const blocks, n = 30, 12
	for what, c := range breaks(t, blocks, n) {
		d := c.m.device(t)
		fused(t, d, 0)
		a := opened(t, d, conf(n))
		fused(t, d, -1)
		if !a.Broken() || a.Promise() != 2 {
			t.Errorf("%s: %t, %d", what, a.Broken(), a.Promise())
		}
		// The others are the log's, all the same.
		tellsRecords(t, a, c.found)
		if room, free := a.Free(); room != n-2-len(c.found) || free != blocks-n {
			t.Errorf("%s: Free: %d, %d", what, room, free)
		}
		for _, x := range calls() {
			if e, zero := x.do(a); e != api.ErrBroken || !zero {
				t.Errorf("%s: %s: %d, %t", what, x.name, e, zero)
			}
		}
		if d.Open() != 0 || !alike(held(t, d), c.m) {
			t.Errorf("%s: something is written", what)
		}
		if again := opened(t, d, conf(n)); !again.Broken() {
			t.Errorf("%s: opened anew it is not broken", what)
		}
	}
}

func TestBrokenByMoreFilesThanMayBe(t *testing.T) {
	row := rowOf(t, append(append([]api.Record{lead(1, 1)}, many(1024)...), put("p0"), put("p1024"))...)
	d := written(t, 1100, 1050, row[:1026])
	if a := opened(t, d, conf(1050)); a.Broken() {
		t.Error("MaxFiles of them: broken")
	} else if files, e := a.List(""); len(files) != 1024 || e != api.OK {
		t.Errorf("List: %d, %d", len(files), e)
	}
	a := opened(t, written(t, 1100, 1050, row), conf(1050))
	if _, e := a.List(""); !a.Broken() || e != api.ErrBroken || a.Head() != headOf(t, row) {
		t.Errorf("one more: %t, %d, %v", a.Broken(), e, a.Head())
	}
}

// What is broken is told by the log as it was opened, and a good one is not.
func TestNotBroken(t *testing.T) {
	_, a := led(t, 40, conf(12))
	puts(t, a, "a", text(1, 100))
	deletes(t, a, "a")
	if a.Broken() {
		t.Error("a good one is broken")
	}
	// A record that is spoilt ends the log, and what is found ahead of it holds.
	d, a := led(t, 40, conf(12))
	puts(t, a, "a", text(1, 100))
	puts(t, a, "b", text(2, 100))
	ends(t, "Rot", d.Rot(4, 60, 1), api.OK)
	a = opened(t, d, conf(12))
	if a.Broken() || a.Head().Seq != 2 {
		t.Errorf("%t, %v", a.Broken(), a.Head())
	}
	reads(t, a, "a", 0, 100, text(1, 100))
}

func TestArchivesThatOpenDidNotMake(t *testing.T) {
	for what, a := range unmade() {
		for _, x := range calls() {
			if e, zero := x.do(a); e != api.ErrNil || !zero {
				t.Errorf("%s: %s: %d, %t", what, x.name, e, zero)
			}
		}
		room, free := a.Free()
		if a.Broken() || a.Head() != (api.Head{}) || a.Promise() != 0 || room != 0 || free != 0 {
			t.Errorf("%s: %t, %v, %d, %d, %d", what, a.Broken(), a.Head(), a.Promise(), room, free)
		}
		for _, seq := range []int{-1, 0, 1} {
			h, e := a.HeadAt(seq)
			r, e2 := a.At(seq)
			if h != (api.Head{}) || e != api.ErrNil || !record.Same(r, api.Record{}) || e2 != api.ErrNil {
				t.Errorf("%s: HeadAt, At: %v, %d, %v, %d", what, h, e, r, e2)
			}
		}
	}
}

// Whichever of them is asked to, both write and cut the same catalogue.
func TestACopiedArchiveTellsTheSame(t *testing.T) {
	_, a := led(t, 60, conf(14))
	x := *a
	puts(t, a, "a", text(1, 300))
	puts(t, &x, "b", text(2, 300))
	ends(t, "Cut", x.Cut(2), api.OK)
	puts(t, a, "c", text(3, 300))
	if state(t, a) != state(t, &x) {
		t.Errorf("%s\nnot\n%s", state(t, &x), state(t, a))
	}
	reads(t, &x, "c", 0, 300, text(3, 300))
}

// The chapter's example 1.
func TestExample(t *testing.T) {
	a := opened(t, diskOf(t, 60), conf(14))
	if h, e := a.Put("a", []byte("a")); h != (api.Head{}) || e != api.ErrNobody {
		t.Errorf("Put: %v, %d", h, e)
	}
	ends(t, "Vow", a.Vow(2), api.OK)
	ends(t, "Lead", a.Lead(2, 0), api.OK)
	if h, e := a.Put("path", []byte("a")); h.Seq != 2 || h.Epoch != 2 || e != api.OK {
		t.Errorf("Put: %v, %d", h, e)
	}
	misses(t, a, "path", 0, 2, api.ErrRange)
	reads(t, a, "path", 0, 1, []byte("a"))
}
