package log_test

import (
	"slices"
	"testing"

	"saltern/api"
	"saltern/disk"
	"saltern/log"
)

// P14.6, P14.9

// settled asks that a log that was opened is just these records, that its blocks hold them and nothing else behind, and that it takes further ones.
func settled(t *testing.T, d *disk.Disk, l *log.Log, row []api.Record, x api.Extent, promise int) {
	t.Helper()
	want := state{records: row, synced: len(row), room: x.N - 2 - len(blocksOf(row...))/512, promise: promise}
	tells(t, "behind a loss", l, want)
	m := held(t, d)
	end := x.At + x.N
	holds(t, "behind a loss", d, m.with(x.At+2, blocksOf(row...)).with(end-want.room, make([]byte, 512*want.room)), 0)
	if want.room == 0 {
		return
	}
	next := made(t, l.Head(), api.Record{Kind: api.RLead, Epoch: 99})
	appends(t, "behind a loss", l, 1, api.OK, next)
	ends(t, "Sync", l.Sync(), api.OK)
	d = lost(t, d, way{})
	want = state{records: append(slices.Clone(row), next), synced: len(row) + 1, room: want.room - 1, promise: promise}
	tells(t, "further ones", opened(t, d, x), want)
}

// begins asks that a log behind a loss is all of must, and a beginning of may.
func begins(t *testing.T, d *disk.Disk, x api.Extent, must, may []api.Record) {
	t.Helper()
	l := opened(t, d, x)
	n := l.Len()
	if n < len(must) || n > len(must)+len(may) {
		t.Errorf("%d records are there, of %d and %d", n, len(must), len(may))
		return
	}
	settled(t, d, l, slices.Concat(must, may)[:n], x, 0)
}

func TestLossesWithinAppendAndSync(t *testing.T) {
	x := api.Extent{At: 1, N: 16}
	for _, blocks := range [][]int{{}, {1}, {2}, {1, 1, 1}, {1, 3, 1}, {3, 2}, {5}, {2, 1, 2, 1}} {
		row := rowOf(t, 2, blocks...)
		for k := range len(row) {
			m := zeros(18).with(3, blocksOf(row[:k]...))
			losses(t, appending(t, m, x, true, row[k:]...), func(done bool, d *disk.Disk) {
				must, may := row[:k], row[k:]
				if done {
					must, may = row, nil
				}
				begins(t, d, x, must, may)
			})
		}
	}
}

// What is laid where a longer row was cut off does not join with what is left of that.
func TestLossesWithinAppendBehindACut(t *testing.T) {
	x := api.Extent{At: 1, N: 16}
	elder := rowOf(t, 2, 1, 1, 2, 1)
	for seq := range 3 {
		row := elder[:seq:seq]
		for k := range 3 {
			row = append(row, made(t, headOf(row...), api.Record{Kind: api.RLead, Epoch: 5 + k, Site: 1}))
		}
		make := func() (*disk.Disk, func() api.Errno) {
			d := zeros(18).with(3, blocksOf(elder...)).device(t)
			l := opened(t, d, x)
			ends(t, "Cut", l.Cut(seq), api.OK)
			return d, func() api.Errno {
				if _, e := l.Append(row[seq:]...); e != api.OK {
					return e
				}
				return l.Sync()
			}
		}
		losses(t, make, func(done bool, d *disk.Disk) {
			must, may := row[:seq], row[seq:]
			if done {
				must, may = row, nil
			}
			begins(t, d, x, must, may)
		})
	}
}

// A record whose last block is all zeros is there as soon as the others are.
func TestARecordThatEndsWithZeros(t *testing.T) {
	x := api.Extent{At: 1, N: 8}
	lead := made(t, api.Head{}, api.Record{Kind: api.RLead, Epoch: 1})
	r := long(t, headOf(lead), 480)
	r.Pieces[len(r.Pieces)-1].D = api.Digest{1}
	row := []api.Record{lead, r, made(t, headOf(lead, r), api.Record{Kind: api.RDelete, Path: "a"})}
	if b := blocksOf(r); len(b) != 1024 || !slices.Equal(b[512:], make([]byte, 512)) {
		t.Fatalf("%d bytes", len(b))
	}
	m := zeros(10).with(3, blocksOf(lead))
	losses(t, appending(t, m, x, true, row[1:]...), func(done bool, d *disk.Disk) {
		must, may := row[:1], row[1:]
		if done {
			must, may = row, nil
		}
		begins(t, d, x, must, may)
	})
	m = zeros(10).with(3, blocksOf(row...))
	does(t, "Cut", m, working(t, m, x, func(l *log.Log) api.Errno { return l.Cut(1) }), cutting(3, row, 1))
}

func TestLossesWithinOpen(t *testing.T) {
	x := api.Extent{At: 1, N: 10}
	row := rowOf(t, 2, 1, 3)
	next := wide(t, headOf(row...), 3)
	m := zeros(12).with(3, blocksOf(row...))
	for what, m := range map[string]image{
		"nothing to clear":        m,
		"junk":                    m.with(8, []byte("junk")).with(10, []byte("junk")),
		"a record without a head": m.with(8, blocksOf(next)).with(8, make([]byte, 512)),
		"a record without an end": m.with(8, blocksOf(next)).with(10, []byte("torn")),
		"a record that is torn":   m.with(8, blocksOf(next)).with(9, blocksOf(next)[512:600]),
		"records behind zeros":    m.with(9, blocksOf(row[1])).with(10, blocksOf(row[0])),
	} {
		losses(t, opening(t, m, x), func(done bool, d *disk.Disk) {
			l := opened(t, d, x)
			settled(t, d, l, row, x, 0)
			if t.Failed() {
				t.Fatal(what)
			}
		})
	}
}

// Power is lost within a call, and again within the Open that follows.
func TestLossesWithinOpenBehindALoss(t *testing.T) {
	x := api.Extent{At: 1, N: 10}
	row := rowOf(t, 2, 1, 3, 1)
	part := zeros(12).with(3, blocksOf(row[:2]...))
	whole := zeros(12).with(3, blocksOf(row...))
	for _, c := range []struct {
		make      task
		must, may []api.Record
	}{
		{appending(t, part, x, true, row[2:]...), row[:2], row[2:]},
		{working(t, whole, x, func(l *log.Log) api.Errno { return l.Cut(2) }), row[:2], row[2:]},
		{working(t, whole, x, func(l *log.Log) api.Errno { return l.Cut(0) }), nil, row},
	} {
		for n := range traced(t, c.make) {
			for _, all := range []bool{false, true} {
				d, call := c.make()
				fused(t, d, n)
				call()
				keep := slices.Repeat([]bool{all}, d.Open())
				first := held(t, lost(t, d, way{keep, d.Open() - 1, 100}))
				losses(t, opening(t, first, x), func(done bool, d *disk.Disk) { begins(t, d, x, c.must, c.may) })
			}
		}
	}
}

// life is a log that is used for long, and what the chapter says of it.
type life struct {
	t       *testing.T
	c       chance
	d       *disk.Disk
	x       api.Extent
	l       *log.Log
	records []api.Record
	synced  int
	promise int
}

func (v *life) room() int { return v.x.N - 2 - len(blocksOf(v.records...))/512 }

func (v *life) agrees(what string) {
	v.t.Helper()
	tells(v.t, what, v.l, state{v.records, v.synced, v.room(), v.promise, false})
	if v.t.Failed() {
		v.t.FailNow()
	}
}

// next is a record that follows.
func (v *life) next() api.Record {
	h := headOf(v.records...)
	if h.Seq == 0 || v.c.below(6) == 0 {
		return made(v.t, h, api.Record{Kind: api.RLead, Epoch: h.Epoch + 1 + v.c.below(3), Site: v.c.below(2)})
	}
	return long(v.t, h, 60+v.c.below(1500))
}

func (v *life) append(dark bool) {
	for range 1 + v.c.below(3) {
		r := v.next()
		n, e := v.l.Append(r)
		blocks := len(blocksOf(r)) / 512
		switch {
		case n == 1 && e == api.OK && blocks <= v.room():
			v.records = append(v.records, r)
		case n == 0 && e == api.ErrFull && blocks > v.room():
		case n == 0 && e == api.ErrDark && dark:
			return
		default:
			v.t.Fatalf("Append: %d, %d", n, e)
		}
	}
}

// lose loses power, and opens anew; least is how many records must be there, and promises are those of which one counts.
func (v *life) lose(least int, promises ...int) {
	open := v.d.Open()
	keep := bools(open, func(int) bool { return v.c.below(2) == 0 })
	v.d = lost(v.t, v.d, way{keep, v.c.below(open+1) - 1, v.c.below(600)})
	v.l = opened(v.t, v.d, v.x)
	n := v.l.Len()
	if n < least || n > len(v.records) || !slices.Contains(promises, v.l.Promise()) {
		v.t.Fatalf("behind a loss %d records of %d, %d at least; promise %d, not one of %v", n, len(v.records), least, v.l.Promise(), promises)
	}
	v.records, v.synced, v.promise = v.records[:n:n], n, v.l.Promise()
	v.agrees("behind a loss")
}

// act does one thing; in the dark a device's error ends it, and power is lost.
func (v *life) act() {
	dark := v.c.below(3) == 0
	if dark {
		fused(v.t, v.d, v.c.below(8))
	}
	var e api.Errno
	least, promises := v.synced, []int{v.promise}
	switch v.c.below(5) {
	case 0, 1:
		v.append(dark)
	case 2:
		if e = v.l.Sync(); e == api.OK {
			v.synced = len(v.records)
			least = v.synced
		}
	case 3:
		epoch := v.promise + v.c.below(3)
		if e = v.l.Vow(epoch); e == api.OK && epoch > v.promise {
			v.promise, v.synced = epoch, len(v.records)
			least, promises = v.synced, []int{epoch}
		} else {
			promises = append(promises, epoch)
		}
	default:
		seq := len(v.records) - v.c.below(min(3, len(v.records)+1))
		if e = v.l.Cut(seq); e == api.OK && seq < len(v.records) {
			v.records, v.synced = v.records[:seq:seq], seq
			least = seq
		} else {
			least = min(least, seq)
		}
	}
	if e != api.OK && (e != api.ErrDark || !dark) {
		v.t.Fatalf("%d, dark: %t", e, dark)
	}
	v.agrees("behind a call")
	if dark || v.c.below(8) == 0 {
		v.lose(least, promises...)
	}
}

func TestALongLife(t *testing.T) {
	for seed := range 12 {
		d := zeros(40).device(t)
		v := &life{t: t, c: chance(seed), d: d, x: api.Extent{At: 3, N: 10 + 2*seed}}
		v.l = opened(t, d, v.x)
		for range 400 {
			v.act()
		}
	}
}
