package archive_test

import (
	"slices"
	"testing"

	"saltern/api"
	"saltern/archive"
	"saltern/disk"
	"saltern/record"
)

// P17.2 to P17.7, P17.9

// life is an archive that is used for long, and what the chapter's words say of it.
type life struct {
	t   *testing.T
	c   chance
	d   *disk.Disk
	a   *archive.Archive
	w   *worded
	met map[string]int // how often a call ended so
}

func begin(t *testing.T, seed, blocks int, c api.ArchConf) *life {
	t.Helper()
	d := diskOf(t, blocks)
	return &life{t: t, c: chance(seed), d: d, a: opened(t, d, c), w: wordedOn(t, diskOf(t, blocks), c), met: map[string]int{}}
}

// step does one thing, whatever it is, and asks that it ends as the words say.
func (v *life) step() {
	v.t.Helper()
	was := v.a.Head()
	what, e, want, same := v.any()
	v.met[what+" "+e.Error()[len("saltern: errno "):]]++
	if e != want || !same {
		v.t.Fatalf("%s: %d, %t, not %d", what, e, same, want)
	}
	v.w.agrees(v.t, v.a, v.d)
	if e != api.OK && v.a.Head() != was { // which has all files, as the words have agreed
		v.t.Errorf("%s: %d changes the catalogue", what, e)
	}
	if v.t.Failed() {
		v.t.Fatalf("behind %s: %d", what, e)
	}
}

func (v *life) path() string {
	return []string{"a", "a/b", "b/c", "b/cc", "b", "", "a b"}[v.c.below(1+v.c.below(7))]
}

// bytes are some that may have been there already, or begin alike.
func (v *life) bytes() []byte {
	b := text(v.c.below(3), v.c.below(1200))
	if v.c.below(3) == 0 {
		b = append(b, v.c.row(v.c.below(300))...)
	}
	return b
}

func (v *life) any() (string, api.Errno, api.Errno, bool) {
	k := v.c.below(24)
	if v.a.Head().Seq == 0 {
		k = v.c.below(1 + v.c.below(24)) // so that somebody leads soon
	}
	switch k {
	case 0:
		n := v.a.Promise() + v.c.below(3) - 1
		return "Vow", v.a.Vow(n), v.w.vow(n), true
	case 1:
		n, site := v.a.Promise()-v.c.below(5)/4, v.c.below(9)/4
		return "Lead", v.a.Lead(n, site), v.w.lead(n, site), true
	case 2, 3, 4, 5, 6, 7:
		path, b := v.path(), v.bytes()
		h, e := v.a.Put(path, b)
		want, wantE := v.w.put(path, b)
		return "Put", e, wantE, h == want
	case 8, 9, 10:
		path := v.path()
		h, e := v.a.Delete(path)
		want, wantE := v.w.delete(path)
		return "Delete", e, wantE, h == want
	case 11, 12, 13:
		r := v.record()
		return "Take", v.a.Take(r), v.w.take(r), true
	case 14:
		b := v.bytes()
		b = b[:min(len(b), v.c.below(20)*10)]
		d, e := v.a.Give(b)
		want, wantE := v.w.give(b)
		return "Give", e, wantE, d == want
	case 15:
		n := v.a.Head().Seq - v.c.below(6) + 1
		return "Cut", v.a.Cut(n), v.w.cut(n), true
	case 16, 17:
		n, e := v.a.Sweep()
		want, wantE := v.w.sweep()
		return "Sweep", e, wantE, n == want
	case 18:
		v.a = opened(v.t, v.d, v.w.c)
		v.w.open(v.t)
		return "Open", api.OK, api.OK, true
	case 19:
		i, at := v.w.c.Log+v.c.below(v.d.Blocks()-v.w.c.Log), v.c.below(120)
		return "Rot", v.d.Rot(i, at, 1), v.w.d.Rot(i, at, 1), true
	}
	path := v.path()
	f, _ := v.a.Stat(path)
	from := v.c.below(f.Size + 2)
	size := v.c.below(f.Size - from + 3)
	b, e := v.a.Get(path, from, size)
	want, wantE := v.w.get(path, from, size)
	return "Get", e, wantE, slices.Equal(b, want)
}

// record is one that may be taken, or not.
func (v *life) record() api.Record {
	h := v.a.Head()
	r := []api.Record{lead(h.Epoch+v.c.below(3), v.c.below(2)), deletion(v.path()), put(v.path()), put(v.path())}[v.c.below(4)]
	if r.Kind == api.RPut {
		for _, chunk := range wordedChunks(v.w.c.Roll, v.bytes()) {
			v.w.known[pieceOf(chunk).D] = chunk
			r.Pieces = append(r.Pieces, pieceOf(chunk))
		}
		if v.c.below(4) == 0 && len(r.Pieces) > 0 {
			r.Pieces[0].N++ // another number of bytes than its chunk has
		}
	}
	if made, e := record.Make(h, r); e == api.OK {
		r = made
	}
	if v.c.below(8) == 0 {
		r.Seq++
	}
	return r
}

func TestHistories(t *testing.T) {
	met := map[string]int{}
	for seed := range 40 {
		log := 6 + seed%13*3
		v := begin(t, seed, log+8+seed%17*2, conf(log))
		for range 120 {
			v.step()
		}
		for what, n := range v.met {
			met[what] += n
		}
	}
	t.Log(met)
	for _, what := range []string{
		"Vow 0", "Vow 141", "Lead 0", "Lead 141", "Lead 130", "Lead 131", "Lead 101",
		"Put 0", "Put 1", "Put 171", "Put 101", "Delete 0", "Delete 1", "Delete 171", "Delete 150", "Delete 101",
		"Get 0", "Get 150", "Get 5", "Get 172", "Take 0", "Take 130", "Take 131", "Take 150", "Take 101",
		"Give 0", "Give 113", "Give 101", "Cut 0", "Cut 5", "Sweep 0", "Open 0", "Rot 0",
	} {
		if met[what] < 5 {
			t.Errorf("%s is met %d times alone", what, met[what])
		}
	}
}
