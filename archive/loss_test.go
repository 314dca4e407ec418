package archive_test

import (
	"bytes"
	"crypto/sha256"
	"slices"
	"testing"

	"saltern/api"
	"saltern/archive"
	"saltern/disk"
	"saltern/record"
)

// P17.10

// way is one to lose power.
type way struct {
	keep []bool
	torn int
	at   int
}

// ways are those to lose so many open writes: each one kept, dropped and torn.
func ways(open int) []way {
	var l []way
	for _, keep := range keeps(open) {
		l = append(l, way{keep, -1, 0})
		for torn := range open {
			for _, at := range []int{0, 1, 3, 4, 12, 40, 300, 511, 512} {
				l = append(l, way{keep, torn, at})
			}
		}
	}
	return l
}

// keeps are all choices of a few open writes, and some of more.
func keeps(open int) [][]bool {
	var l [][]bool
	if open <= 3 {
		for set := range 1 << open {
			l = append(l, bools(open, func(k int) bool { return set>>k&1 == 1 }))
		}
		return l
	}
	for _, n := range []int{0, 1, open / 2, open - 1, open} {
		l = append(l, bools(open, func(k int) bool { return k < n }), bools(open, func(k int) bool { return k >= n }))
	}
	return append(l, bools(open, func(k int) bool { return k%2 == 0 }), bools(open, func(k int) bool { return k%2 == 1 }))
}

func bools(n int, is func(k int) bool) []bool {
	l := make([]bool, n)
	for k := range l {
		l[k] = is(k)
	}
	return l
}

// wide has few blocks to go through: power is lost over and over.
var wide = api.ArchConf{Log: 16, Roll: even(150)}

// task makes a device, and a call that works on it.
type task func() (*disk.Disk, func() api.Errno)

// calling is a task: a call of the archive of an image in which Open has nothing to write.
func calling(t *testing.T, m image, c api.ArchConf, do func(a *archive.Archive) api.Errno) task {
	t.Helper()
	return func() (*disk.Disk, func() api.Errno) {
		d := m.device(t)
		fused(t, d, 0)
		a := opened(t, d, c)
		return d, func() api.Errno { return do(a) }
	}
}

// losses loses power behind each single write and sync of a call, and behind all of them, in all ways; check is told whether the call had ended, and what each loss left. It tells how many writes and syncs there are.
func losses(t *testing.T, make task, check func(done bool, d *disk.Disk)) int {
	t.Helper()
	for n := range 100 {
		seen := map[[32]byte]int{}
		done, l := false, []way{{torn: -1}}
		for k := 0; k < len(l); k++ {
			d, call := make()
			fused(t, d, n)
			e := call()
			if e != api.OK && e != api.ErrDark {
				t.Fatalf("behind %d writes: %d", n, e)
			}
			done = e == api.OK
			if k == 0 {
				l = append(l, ways(d.Open())...)
			}
			d, e = d.Lose(l[k].keep, l[k].torn, l[k].at)
			ends(t, "Lose", e, api.OK)
			// Most ways leave the same blocks as others.
			sum := sha256.Sum256(slices.Concat(held(t, d)...))
			if seen[sum]++; seen[sum] == 1 {
				check(done, d)
			}
			if t.Failed() {
				t.Fatalf("behind %d writes, %v", n, l[k])
			}
		}
		if done {
			return n
		}
	}
	t.Fatal("no end")
	return 0
}

// grownFiles are what the files of grown's archive have, by the numbers of their records.
func grownFiles() map[int][]byte {
	return map[int][]byte{2: text(1, 400), 3: text(2, 400), 4: text(3, 400), 7: text(1, 400)}
}

// behind asks what stands behind a loss and Open: it is not broken; all records of must are there, and of may those from the first one on; its files are theirs, and all of them are read.
func behind(t *testing.T, d *disk.Disk, c api.ArchConf, must, may []api.Record, contents map[int][]byte) *archive.Archive {
	t.Helper()
	a := opened(t, d, c)
	if a.Broken() {
		t.Fatal("it is broken")
	}
	l := slices.Concat(must, may)
	n := a.Head().Seq
	if n < len(must) || n > len(l) {
		t.Fatalf("%d records, not from %d to %d", n, len(must), len(l))
	}
	tellsRecords(t, a, l[:n])
	files, e := a.List("")
	if !slices.EqualFunc(files, filesOf(l[:n]), sameFile) || e != api.OK {
		t.Errorf("%v, %d, not %v", files, e, filesOf(l[:n]))
	}
	for _, f := range files {
		if want, told := contents[f.Seq]; told {
			reads(t, a, f.Path, 0, len(want), want)
		}
	}
	return a
}

// goesOn asks that an archive is led and written to as any other.
func goesOn(t *testing.T, a *archive.Archive) {
	t.Helper()
	epoch := max(a.Promise(), a.Head().Epoch) + 1
	ends(t, "Vow", a.Vow(epoch), api.OK)
	ends(t, "Lead", a.Lead(epoch, 1), api.OK)
	if _, e := a.Sweep(); e != api.OK {
		t.Errorf("Sweep: %d", e)
	}
	b := text(9, 250)
	puts(t, a, "on", b)
	reads(t, a, "on", 0, len(b), b)
	wants(t, a)
}

func TestLossesWithinVow(t *testing.T) {
	c := wide
	m, whole := grown(t, c, 34)
	l := records(t, whole)
	losses(t, calling(t, m, c, func(a *archive.Archive) api.Errno { return a.Vow(7) }), func(done bool, d *disk.Disk) {
		a := behind(t, d, c, l, nil, grownFiles())
		if p := a.Promise(); p != 7 && (done || p != 4) {
			t.Errorf("Promise: %d, %t", p, done)
		}
		goesOn(t, a)
	})
}

func TestLossesWithinLead(t *testing.T) {
	c := wide
	m, whole := grown(t, c, 34)
	l := records(t, whole)
	d := m.device(t)
	ends(t, "Vow", opened(t, d, c).Vow(7), api.OK)
	next := rowOf(t, append(l, lead(7, 1))...)[7:]
	losses(t, calling(t, held(t, d), c, func(a *archive.Archive) api.Errno { return a.Lead(7, 1) }), func(done bool, d *disk.Disk) {
		a := after(t, d, c, l, next, done, grownFiles())
		if a.Promise() != 7 {
			t.Errorf("Promise: %d", a.Promise())
		}
		goesOn(t, a)
	})
}

// after asks what stands behind a loss within a call that adds records.
func after(t *testing.T, d *disk.Disk, c api.ArchConf, l, next []api.Record, done bool, contents map[int][]byte) *archive.Archive {
	t.Helper()
	if done {
		l, next = slices.Concat(l, next), nil
	}
	return behind(t, d, c, l, next, contents)
}

func TestLossesWithinPut(t *testing.T) {
	c := wide
	m, whole := grown(t, c, 34)
	l := records(t, whole)
	var x chance = 12
	for _, f := range []struct {
		path string
		b    []byte
	}{
		{"c", nil},
		{"a", []byte("a chunk")},
		{"a", text(3, 400)},
		{"c", x.row(500)},
		{"c", bytes.Repeat(text(7, 150), 14)}, // whose record has two blocks
		{"b", append(text(2, 390), x.row(20)...)},
	} {
		var pieces []api.Piece
		for _, chunk := range wordedChunks(c.Roll, f.b) {
			pieces = append(pieces, pieceOf(chunk))
		}
		next := rowOf(t, append(slices.Clone(l), put(f.path, pieces...))...)[7:]
		contents := grownFiles()
		contents[8] = f.b
		put := func(a *archive.Archive) api.Errno { _, e := a.Put(f.path, f.b); return e }
		losses(t, calling(t, m, c, put), func(done bool, d *disk.Disk) {
			a := after(t, d, c, l, next, done, contents)
			wants(t, a)
			ends(t, "Put again", put(a), api.OK)
			reads(t, a, f.path, 0, len(f.b), f.b)
			ends(t, "Cut", a.Cut(7), api.OK)
			goesOn(t, a)
		})
	}
}

func TestLossesWithinPutOfWideChunks(t *testing.T) {
	c := api.ArchConf{Log: 12, Roll: even(1500)}
	var x chance = 2
	first, other := x.row(2000), append(text(1, 1500), x.row(1400)...)
	d, a := led(t, 40, c)
	puts(t, a, "a", first)
	l := records(t, a)
	next := rowOf(t, append(slices.Clone(l), put("b", pieceOf(other[:1500]), pieceOf(other[1500:])))...)[2:]
	put := func(a *archive.Archive) api.Errno { _, e := a.Put("b", other); return e }
	losses(t, calling(t, held(t, d), c, put), func(done bool, d *disk.Disk) {
		a := after(t, d, c, l, next, done, map[int][]byte{2: first, 3: other})
		wants(t, a)
		goesOn(t, a)
	})
}

func TestLossesWithinDelete(t *testing.T) {
	c := wide
	m, whole := grown(t, c, 34)
	l := records(t, whole)
	next := rowOf(t, append(l, deletion("a"))...)[7:]
	del := func(a *archive.Archive) api.Errno { _, e := a.Delete("a"); return e }
	losses(t, calling(t, m, c, del), func(done bool, d *disk.Disk) {
		goesOn(t, after(t, d, c, l, next, done, grownFiles()))
	})
}

func TestLossesWithinTake(t *testing.T) {
	c := wide
	m, whole := grown(t, c, 34)
	l := records(t, whole)
	chunk := []byte("elsewhere")
	many := slices.Repeat([]api.Piece{pieceOf(chunk)}, 30)
	for _, rs := range [][]api.Record{
		{put("c", pieceOf(chunk)), deletion("a"), lead(9, 1)},
		{put("a", many...), deletion("a")},
		{deletion("b"), put("b")},
	} {
		next := rowOf(t, append(slices.Clone(l), rs...)...)[7:]
		for k := range next {
			start := m.device(t)
			a := opened(t, start, c)
			for _, r := range next[:k] {
				ends(t, "Take", a.Take(r), api.OK)
			}
			l := slices.Concat(l, next[:k])
			losses(t, calling(t, held(t, start), c, func(a *archive.Archive) api.Errno { return a.Take(next[k]) }), func(done bool, d *disk.Disk) {
				a := after(t, d, c, l, next[k:k+1], done, grownFiles())
				if a.Head().Seq == len(l) {
					ends(t, "Take", a.Take(next[k]), api.OK)
				}
				ends(t, "Give", gives(a, chunk), api.OK)
				wants(t, a)
				goesOn(t, a)
			})
		}
	}
}

// All records of several calls are there, whose calls told no error.
func TestLossesWithinTakesBehindOneAnother(t *testing.T) {
	c := conf(20)
	l := rowOf(t, lead(1, 0), put("a", slices.Repeat([]api.Piece{{D: api.Digest{1}, N: 1}}, 30)...), put("b"), deletion("a"), lead(3, 1))
	taken := 0
	takes := func(a *archive.Archive) api.Errno {
		taken = 0
		for _, r := range l {
			if e := a.Take(r); e != api.OK {
				return e
			}
			taken++
		}
		return api.OK
	}
	losses(t, calling(t, zeros(40), c, takes), func(done bool, d *disk.Disk) {
		behind(t, d, c, l[:taken], l[taken:min(taken+1, len(l))], nil)
	})
}

func TestLossesWithinCut(t *testing.T) {
	c := wide
	m, whole := grown(t, c, 34)
	l := records(t, whole)
	for seq := range l {
		losses(t, calling(t, m, c, func(a *archive.Archive) api.Errno { return a.Cut(seq) }), func(done bool, d *disk.Disk) {
			a := behind(t, d, c, l[:seq], l[seq:], grownFiles())
			if n := a.Head().Seq; n != seq && (done || n != len(l)) {
				t.Errorf("%d records are left, of %d, cut to %d", n, len(l), seq)
			}
			ends(t, "Cut", a.Cut(seq), api.OK)
			goesOn(t, a)
		})
	}
}

func TestLossesWithinGive(t *testing.T) {
	c := wide
	m, whole := grown(t, c, 34)
	l := records(t, whole)
	var x chance = 20
	b := x.row(1100)
	losses(t, calling(t, m, c, func(a *archive.Archive) api.Errno { return gives(a, b) }), func(done bool, d *disk.Disk) {
		a := behind(t, d, c, l, nil, grownFiles())
		chunk, e := a.Chunk(sha256.Sum256(b))
		if e == api.OK && !bytes.Equal(chunk, b) || e != api.OK && (e != api.ErrNone || done) {
			t.Errorf("Chunk: %d bytes, %d, %t", len(chunk), e, done)
		}
		goesOn(t, a)
	})
}

func TestLossesWithinSweep(t *testing.T) {
	c := wide
	m, whole := grown(t, c, 34)
	l := records(t, whole)
	_, free := whole.Free()
	sweep := func(a *archive.Archive) api.Errno { _, e := a.Sweep(); return e }
	losses(t, calling(t, m, c, sweep), func(done bool, d *disk.Disk) {
		a := behind(t, d, c, l, nil, grownFiles())
		wants(t, a)
		if _, now := a.Free(); now < free || done && now == free {
			t.Errorf("%d are free, of %d, %t", now, free, done)
		}
		ends(t, "Sweep", sweep(a), api.OK)
		goesOn(t, a)
	})
}

// Power is lost within an Open that has something to clear, in the log and in the store.
func TestLossesWithinOpen(t *testing.T) {
	c := wide
	m, whole := grown(t, c, 34)
	l := records(t, whole)
	var x chance = 9
	d := m.device(t)
	fused(t, d, 5) // within a Put
	if _, e := opened(t, d, c).Put("c", x.row(500)); e != api.ErrDark {
		t.Fatalf("Put: %d", e)
	}
	m = held(t, d).with(13, []byte("junk")).with(15, []byte("more of it")).with(32, []byte("SCHX"))
	opening := func() (*disk.Disk, func() api.Errno) {
		d := m.device(t)
		return d, func() api.Errno {
			_, e := archive.Open(d, c)
			return e
		}
	}
	n := losses(t, opening, func(done bool, d *disk.Disk) {
		a := behind(t, d, c, l, nil, grownFiles())
		wants(t, a)
		goesOn(t, a)
	})
	if n < 6 {
		t.Errorf("%d writes and syncs alone", n)
	}
}

// A life of losses: whatever is done, what told no error is there behind each of them.
func TestALifeOfLosses(t *testing.T) {
	var x chance = 77
	met := 0
	for range 25 {
		c := conf(40)
		d := diskOf(t, 120)
		a := opened(t, d, c)
		ends(t, "Vow", a.Vow(1), api.OK)
		ends(t, "Lead", a.Lead(1, 0), api.OK)
		contents := map[int][]byte{}
		promise := 1
		for range 40 {
			l := records(t, a)
			if x.below(3) == 0 {
				fused(t, d, x.below(12))
			}
			var next []api.Record
			var e api.Errno
			path := string(rune('a' + x.below(3)))
			switch x.below(7) {
			case 0:
				next = []api.Record{deletion(path)}
				_, e = a.Delete(path)
			case 1:
				_, e = a.Sweep()
			case 2:
				promise++
				if e = a.Vow(promise); e == api.OK {
					next = []api.Record{lead(promise, 1)}
					e = a.Lead(promise, 1)
				}
			default:
				b := append(text(x.below(4), x.below(500)), x.row(x.below(60))...)
				r := put(path)
				for _, chunk := range wordedChunks(c.Roll, b) {
					r.Pieces = append(r.Pieces, pieceOf(chunk))
				}
				next = []api.Record{r}
				contents[len(l)+1] = b
				_, e = a.Put(path, b)
			}
			if e == api.OK {
				l, next = rowOf(t, append(l, next...)...), nil
			} else if e == api.ErrDark {
				next = rowOf(t, append(slices.Clone(l), next...)...)[len(l):]
			} else {
				next = nil
			}
			if e == api.ErrDark || x.below(6) == 0 {
				met++
				all := ways(d.Open())
				w := all[x.below(len(all))]
				d, e = d.Lose(w.keep, w.torn, w.at)
				ends(t, "Lose", e, api.OK)
				a = behind(t, d, c, l, next, contents)
				wants(t, a)
				promise = max(promise, a.Promise())
				l = records(t, a)
			}
			fused(t, d, -1)
			if now := records(t, a); !slices.EqualFunc(now, l, record.Same) {
				t.Errorf("%d records, not %d", len(now), len(l))
			}
			if t.Failed() {
				t.FailNow()
			}
		}
	}
	if met < 200 {
		t.Errorf("power is lost %d times alone", met)
	}
}
