package archive_test

import (
	"crypto/sha256"
	"fmt"
	"testing"

	"saltern/api"
	"saltern/archive"
	"saltern/disk"
)

// P17.9

// Whatever a call refuses, with arguments of all kinds, all stays as it was; so does what is asked for alone.
func TestRefusalsLeaveAll(t *testing.T) {
	for what, make := range map[string]func() *archive.Archive{
		"empty": func() *archive.Archive { return opened(t, diskOf(t, 40), conf(12)) },
		"vowed": func() *archive.Archive {
			a := opened(t, diskOf(t, 40), conf(12))
			ends(t, "Vow", a.Vow(2), api.OK)
			return a
		},
		"led": func() *archive.Archive {
			_, a := led(t, 40, conf(12))
			return a
		},
		"with files": func() *archive.Archive {
			_, a := led(t, 40, conf(12))
			puts(t, a, "a", text(1, 300))
			puts(t, a, "b", text(2, 300))
			return a
		},
		"with a full log": func() *archive.Archive {
			_, a := led(t, 40, conf(4))
			puts(t, a, "a", []byte("a few bytes"))
			return a
		},
		"with a full store": func() *archive.Archive {
			_, a := led(t, 40, api.ArchConf{Log: 39, Roll: even(1)})
			puts(t, a, "a", []byte("a"))
			return a
		},
	} {
		a := make()
		refused, was := 0, filesState(t, a)
		for _, x := range calls() {
			head, promise := a.Head(), a.Promise()
			e, zero := x.do(a)
			if e == api.OK {
				if now := filesState(t, a); now != was || a.Head() != head || a.Promise() != promise {
					a = make() // it did something
				}
				continue
			}
			refused++
			if now := filesState(t, a); now != was || a.Head() != head || a.Promise() != promise || !zero || a.Broken() {
				t.Errorf("%s: %s: %d, %t: %v, %d, not %v, %d\n%s\nnot\n%s", what, x.name, e, zero, a.Head(), a.Promise(), head, promise, now, was)
			}
		}
		if refused < 20 {
			t.Errorf("%s: %d calls are refused alone", what, refused)
		}
	}
}

// Of several errors the one counts that is named first.
func TestTheErrorsOrder(t *testing.T) {
	nobody := opened(t, diskOf(t, 40), api.ArchConf{Log: 12, Roll: even(1)})
	_, full := led(t, 40, api.ArchConf{Log: 4, Roll: even(1)})
	puts(t, full, "a", nil)
	long, pieces := make([]byte, 1<<20+1), make([]byte, 4097)
	puts1 := func(a *archive.Archive, path string, b []byte) api.Errno { _, e := a.Put(path, b); return e }
	dels := func(a *archive.Archive, path string) api.Errno { _, e := a.Delete(path); return e }
	for i, c := range [][2]api.Errno{
		{puts1(nobody, "", long), api.ErrArg},
		{puts1(nobody, "a", long), api.ErrLong},
		{puts1(nobody, "a", pieces), api.ErrNobody},
		{puts1(full, "", long), api.ErrArg},
		{puts1(full, "a", long), api.ErrLong},
		{puts1(full, "a", pieces), api.ErrRecord},
		{puts1(full, "a", []byte("more chunks than the store has blocks for..")), api.ErrFull},
		{puts1(full, "a", nil), api.ErrFull},
		{dels(nobody, ""), api.ErrArg},
		{dels(nobody, "a"), api.ErrNobody},
		{dels(full, ""), api.ErrArg},
		{dels(full, "b"), api.ErrNoFile},
		{dels(full, "a"), api.ErrFull},
		{full.Lead(3, 2), api.ErrVow},
		{full.Lead(2, 2), api.ErrRecord},
		{full.Lead(2, 1), api.ErrChain},
		{full.Take(api.Record{Seq: 9}), api.ErrRecord},
		{full.Take(api.Record{Kind: api.RDelete, Seq: 9, Epoch: 2, Path: "none"}), api.ErrChain},
		{full.Take(rowOf(t, append(records(t, full), deletion("none"))...)[2]), api.ErrNoFile},
		{full.Take(rowOf(t, append(records(t, full), deletion("a"))...)[2]), api.ErrFull},
	} {
		ends(t, fmt.Sprint(i), c[0], c[1])
	}
}

// A device's error is told with nothing beside it, whichever write it ends.
func TestADevicesErrorIsToldAlone(t *testing.T) {
	c := conf(20)
	m, whole := grown(t, c, 70)
	next := rowOf(t, append(records(t, whole), put("c", pieceOf([]byte("elsewhere"))))...)[7]
	for _, x := range []call{
		{"Vow", func(a *archive.Archive) (api.Errno, bool) { return a.Vow(6), true }},
		{"Lead", func(a *archive.Archive) (api.Errno, bool) {
			if e := a.Vow(8); e != api.OK {
				return e, true
			}
			return a.Lead(8, 1), true
		}},
		{"Put", func(a *archive.Archive) (api.Errno, bool) {
			h, e := a.Put("c", text(5, 300))
			return e, h == api.Head{}
		}},
		{"Delete", func(a *archive.Archive) (api.Errno, bool) {
			h, e := a.Delete("a")
			return e, h == api.Head{}
		}},
		{"Take", func(a *archive.Archive) (api.Errno, bool) { return a.Take(next), true }},
		{"Give", func(a *archive.Archive) (api.Errno, bool) {
			d, e := a.Give(text(6, 2000))
			return e, d == api.Digest{}
		}},
		{"Cut", func(a *archive.Archive) (api.Errno, bool) { return a.Cut(3), true }},
		{"Sweep", func(a *archive.Archive) (api.Errno, bool) {
			n, e := a.Sweep()
			return e, n == 0
		}},
	} {
		ended := 0
		for n := range 60 {
			d := m.device(t)
			a := opened(t, d, c)
			fused(t, d, n)
			e, zero := x.do(a)
			if e == api.OK {
				break
			}
			ended++
			if e != api.ErrDark || !zero {
				t.Errorf("%s behind %d writes: %d, %t", x.name, n, e, zero)
			}
		}
		if ended < 2 || ended == 60 {
			t.Errorf("%s is ended %d times", x.name, ended)
		}
	}
	downs := []call{
		{"Vow", func(a *archive.Archive) (api.Errno, bool) { return a.Vow(6), true }},
		{"Give", func(a *archive.Archive) (api.Errno, bool) { return gives(a, []byte("new")), true }},
		{"Cut", func(a *archive.Archive) (api.Errno, bool) { return a.Cut(3), true }},
		{"Take", func(a *archive.Archive) (api.Errno, bool) { return a.Take(next), true }},
		{"Sweep", func(a *archive.Archive) (api.Errno, bool) {
			n, e := a.Sweep()
			return e, n == 0
		}},
	}
	for _, x := range downs {
		d := m.device(t)
		a := opened(t, d, c)
		down(t, d)
		if e, zero := x.do(a); e != api.ErrDown || !zero {
			t.Errorf("%s of a device that is down: %d, %t", x.name, e, zero)
		}
	}
}

// Two devices, and what is done on one: each call makes just the writes of the words, in their order.
func TestWritesInTheirOrder(t *testing.T) {
	c := conf(20)
	m, whole := grown(t, c, 70)
	next := rowOf(t, append(records(t, whole), put("c", pieceOf([]byte("elsewhere"))))...)[7]
	b := text(5, 300)
	for what, do := range map[string]func(a *archive.Archive, w *worded) (api.Errno, api.Errno){
		"Vow":    func(a *archive.Archive, w *worded) (api.Errno, api.Errno) { return a.Vow(6), w.vow(6) },
		"Lead":   func(a *archive.Archive, w *worded) (api.Errno, api.Errno) { return a.Lead(4, 0), w.lead(4, 0) },
		"Put":    func(a *archive.Archive, w *worded) (api.Errno, api.Errno) { return both(a.Put("c", b))(w.put("c", b)) },
		"Delete": func(a *archive.Archive, w *worded) (api.Errno, api.Errno) { return both(a.Delete("a"))(w.delete("a")) },
		"Take":   func(a *archive.Archive, w *worded) (api.Errno, api.Errno) { return a.Take(next), w.take(next) },
		"Give":   func(a *archive.Archive, w *worded) (api.Errno, api.Errno) { return both(a.Give(b))(w.give(b)) },
		"Cut":    func(a *archive.Archive, w *worded) (api.Errno, api.Errno) { return a.Cut(3), w.cut(3) },
		"Sweep":  func(a *archive.Archive, w *worded) (api.Errno, api.Errno) { return both(a.Sweep())(w.sweep()) },
	} {
		ended := 0
		for n := range 60 {
			d, d2 := m.device(t), m.device(t)
			a, w := opened(t, d, c), wordedOn(t, d2, c)
			if what == "Lead" {
				ends(t, "Cut", a.Cut(3), api.OK)
				ends(t, "Cut", w.cut(3), api.OK)
			}
			fused(t, d, n)
			fused(t, d2, n)
			e, want := do(a, w)
			if e != want || d.Open() != d2.Open() || !alike(held(t, d), held(t, d2)) {
				t.Errorf("%s behind %d writes: %d, %d are open, not %d, %d", what, n, e, d.Open(), want, d2.Open())
			}
			lost(t, d, d2)
			if e == api.OK {
				break
			}
			ended++
		}
		if ended < 2 || ended == 60 {
			t.Errorf("%s is ended %d times", what, ended)
		}
	}
}

// both are the errors of two calls that answer something else, too.
func both[T any](_ T, e api.Errno) func(T, api.Errno) (api.Errno, api.Errno) {
	return func(_ T, e2 api.Errno) (api.Errno, api.Errno) { return e, e2 }
}

// lost asks that two devices hold the same when what is open is lost.
func lost(t *testing.T, d, d2 *disk.Disk) {
	t.Helper()
	x, e := d.Lose(nil, -1, 0)
	x2, e2 := d2.Lose(nil, -1, 0)
	if e != api.OK || e2 != api.OK || !alike(held(t, x), held(t, x2)) {
		t.Errorf("behind a loss: %d, %d, other bytes", e, e2)
	}
}

// A broken archive's chunks are there, but it tells none.
func TestABrokenArchiveTellsNoChunk(t *testing.T) {
	chunk := []byte("a chunk")
	d, a := led(t, 40, conf(12))
	ends(t, "Give", gives(a, chunk), api.OK)
	puts(t, a, "a", chunk)
	puts(t, a, "b", chunk)
	b, _ := d.Read(3)
	ends(t, "Write", d.Write(4, b), api.OK)
	a = opened(t, d, conf(12))
	if c, e := a.Chunk(sha256.Sum256(chunk)); len(c) > 0 || e != api.ErrBroken || !a.Broken() {
		t.Errorf("%q, %d, %t", c, e, a.Broken())
	}
	misses(t, a, "a", 0, 7, api.ErrBroken)
}
