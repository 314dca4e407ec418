package names_test

import (
	"bytes"
	"fmt"
	"math"
	"slices"
	"sort"
	"strings"
	"testing"

	"saltern/api"
	"saltern/names"
	"saltern/record"
)

// chance is numbers without a pattern, always the same ones.
type chance uint64

func (c *chance) below(n int) int {
	*c = *c*6364136223846793005 + 1442695040888963407
	return int(uint64(*c)>>33) % n
}

// digest is one that is told from the digests of other numbers at its first or its last bytes.
func digest(k int) api.Digest {
	return api.Digest{byte(k % 3), 30: byte(k >> 8), 31: byte(k)}
}

// sized are pieces of so many bytes, with digests from that of a number on.
func sized(k int, sizes ...int) []api.Piece {
	var l []api.Piece
	for i, n := range sizes {
		l = append(l, api.Piece{D: digest(k + i), N: n})
	}
	return l
}

func lead(seq, site int) api.Record {
	return api.Record{Seq: seq, Epoch: 3, Kind: api.RLead, Site: site}
}

func put(seq int, path string, l ...api.Piece) api.Record {
	return api.Record{Seq: seq, Epoch: 3, Prev: api.Digest{5}, Kind: api.RPut, Path: path, Pieces: l}
}

func del(seq int, path string) api.Record {
	return api.Record{Seq: seq, Epoch: 3, Kind: api.RDelete, Path: path}
}

// pathOf is the path of a number; they rise as their numbers do.
func pathOf(k int) string {
	return fmt.Sprintf("p/%05d", k)
}

// crowd are RPuts of n paths.
func crowd(n int) []api.Record {
	var l []api.Record
	for k := range n {
		l = append(l, put(k+1, pathOf(k), sized(k, 1+k%7)...))
	}
	return l
}

// changed is a record that a function changed.
func changed(r api.Record, by func(r *api.Record)) api.Record {
	r.Pieces = slices.Clone(r.Pieces)
	by(&r)
	return r
}

// wrong are records of each kind that may not be, but for one thing of them.
func wrong(path string) []api.Record {
	var l []api.Record
	for _, r := range []api.Record{put(4, path, sized(0, 3, 5)...), del(4, path), lead(4, 0)} {
		for _, by := range []func(r *api.Record){
			func(r *api.Record) { r.Seq = 0 },
			func(r *api.Record) { r.Seq = -1 },
			func(r *api.Record) { r.Seq = 1<<30 + 1 },
			func(r *api.Record) { r.Epoch = 0 },
			func(r *api.Record) { r.Epoch = math.MinInt },
			func(r *api.Record) { r.Epoch = 1<<30 + 1 },
			func(r *api.Record) { r.Kind = 0 },
			func(r *api.Record) { r.Kind = 4 },
			func(r *api.Record) { r.Kind = -1 },
			func(r *api.Record) { r.Site = 2 },
			func(r *api.Record) { r.Site = -1 },
		} {
			l = append(l, changed(r, by))
		}
	}
	l = append(l, api.Record{},
		changed(lead(4, 0), func(r *api.Record) { r.Path = path }),
		changed(lead(4, 0), func(r *api.Record) { r.Pieces = sized(0, 1) }),
		changed(del(4, path), func(r *api.Record) { r.Pieces = sized(0, 1) }),
		changed(del(4, path), func(r *api.Record) { r.Site = 1 }),
		changed(put(4, path), func(r *api.Record) { r.Site = 1 }))
	for _, p := range []string{"", " ", path + " ", path + "\x7f", "\x00", path + "\n", "é", strings.Repeat("a", 256)} {
		l = append(l, put(4, p), del(4, p))
	}
	for _, ps := range [][]api.Piece{
		sized(0, 0), sized(0, 3, -1), sized(0, 4097, 1), sized(0, math.MaxInt, math.MaxInt), sized(0, math.MinInt),
		sized(0, append(slices.Repeat([]int{4096}, 256), 1)...), sized(0, slices.Repeat([]int{1}, 4097)...),
	} {
		l = append(l, put(4, path, ps...))
	}
	return l
}

// done are the records of a namespace, in order: what the chapter says of it is read off them once more.
type done []api.Record

// file is a path's, if it has one.
func (l done) file(path string) (api.File, bool) {
	for _, r := range slices.Backward(l) {
		if r.Kind == 1 || r.Path != path {
			continue
		}
		if r.Kind == 3 {
			return api.File{}, false
		}
		f := api.File{Path: path, Seq: r.Seq, Pieces: slices.Clone(r.Pieces)}
		for _, p := range r.Pieces {
			f.Size += p.N
		}
		return f, true
	}
	return api.File{}, false
}

// files are all of them, by their paths.
func (l done) files() []api.File {
	paths := map[string]int{}
	for _, r := range l {
		paths[r.Path]++
	}
	var fs []api.File
	for p := range paths {
		if f, there := l.file(p); there {
			fs = append(fs, f)
		}
	}
	sort.Slice(fs, func(i, k int) bool { return bytes.Compare([]byte(fs[i].Path), []byte(fs[k].Path)) < 0 })
	return fs
}

// list are those files whose paths begin so.
func (l done) list(prefix string) []api.File {
	return slices.DeleteFunc(l.files(), func(f api.File) bool {
		return len(f.Path) < len(prefix) || f.Path[:len(prefix)] != prefix
	})
}

func (l done) digests() []api.Digest {
	var ds []api.Digest
	for _, f := range l.files() {
		for _, p := range f.Pieces {
			ds = append(ds, p.D)
		}
	}
	sort.Slice(ds, func(i, k int) bool { return bytes.Compare(ds[i][:], ds[k][:]) < 0 })
	return slices.Compact(ds)
}

func (l done) may(r api.Record) api.Errno {
	if e := record.Check(r); e != 0 {
		return e
	}
	_, there := l.file(r.Path)
	switch {
	case r.Kind == 3 && !there:
		return 150
	case r.Kind == 2 && !there && len(l.files()) == 1024:
		return 3
	}
	return 0
}

// seek goes through a file byte by byte.
func (l done) seek(path string, from, size int) ([]api.Part, api.Errno) {
	f, there := l.file(path)
	if !there {
		return nil, 150
	}
	if from < 0 || size < 0 || from > math.MaxInt-size || from+size > f.Size {
		return nil, 5
	}
	var parts []api.Part
	at := 0
	for _, p := range f.Pieces {
		q := api.Part{D: p.D, N: p.N, From: -1}
		for i := range p.N {
			if at+i >= from && at+i < from+size {
				if q.From < 0 {
					q.From = i
				}
				q.To = i + 1
			}
		}
		if q.From >= 0 {
			parts = append(parts, q)
		}
		at += p.N
	}
	return parts, 0
}

// of is a namespace of records, all of which can be done.
func of(t *testing.T, l ...api.Record) *names.Names {
	t.Helper()
	n, k, e := names.Of(l...)
	if n == nil || k != len(l) || e != api.OK {
		t.Fatalf("Of: %v, %d of %d, %d", n, k, len(l), e)
	}
	return n
}

func applies(t *testing.T, n *names.Names, r api.Record) {
	t.Helper()
	if e := n.May(r); e != api.OK {
		t.Errorf("May of %s: %d", short(r), e)
	}
	if e := n.Apply(r); e != api.OK {
		t.Errorf("Apply of %s: %d", short(r), e)
	}
}

// refuses asks for an error of a record, which changes nothing.
func refuses(t *testing.T, n *names.Names, r api.Record, want api.Errno) {
	t.Helper()
	was := n.List("")
	if e := n.May(r); e != want {
		t.Errorf("May of %s: %d, not %d", short(r), e, want)
	}
	if e := n.Apply(r); e != want {
		t.Errorf("Apply of %s: %d, not %d", short(r), e, want)
	}
	if !alike(n.List(""), was) {
		t.Errorf("%s, which told %d, changed the files", short(r), want)
	}
}

// tells holds all files of a namespace, and what it tells of some other paths, against the records that were done.
func tells(t *testing.T, what string, n *names.Names, l done, others ...string) {
	t.Helper()
	all := l.files()
	if got := n.List(""); !alike(got, all) {
		t.Fatalf("%s: List: %s, not %s", what, texts(got), texts(all))
	}
	if got, want := n.Digests(), l.digests(); !slices.Equal(got, want) {
		t.Fatalf("%s: Digests: %v, not %v", what, got, want)
	}
	for _, f := range all {
		if got, e := n.Stat(f.Path); e != api.OK || !alike([]api.File{got}, []api.File{f}) {
			t.Fatalf("%s: Stat: %v, %d, not %v", what, got, e, f)
		}
		seeks(t, n, l, f.Path, 0, f.Size)
	}
	for _, p := range others {
		want, there := l.file(p)
		wantE := api.OK
		if !there {
			wantE = api.ErrNoFile
		}
		if got, e := n.Stat(p); e != wantE || !alike([]api.File{got}, []api.File{want}) {
			t.Fatalf("%s: Stat of %.20q: %v, %d, not %v, %d", what, p, got, e, want, wantE)
		}
		if got, want := n.List(p), l.list(p); !alike(got, want) {
			t.Fatalf("%s: List of %.20q: %s, not %s", what, p, texts(got), texts(want))
		}
		seeks(t, n, l, p, 0, 0)
	}
}

// seeks asks for Seek as the chapter's words have it.
func seeks(t *testing.T, n *names.Names, l done, path string, from, size int) {
	t.Helper()
	want, wantE := l.seek(path, from, size)
	got, e := n.Seek(path, from, size)
	if e != wantE || !slices.Equal(got, want) {
		t.Errorf("Seek of %.20q, %d, %d: %v, %d, not %v, %d", path, from, size, got, e, want, wantE)
	}
}

// alike tells whether two lists of files are, nil and empty Pieces too.
func alike(a, b []api.File) bool {
	return slices.EqualFunc(a, b, func(f, g api.File) bool {
		return f.Path == g.Path && f.Size == g.Size && f.Seq == g.Seq && slices.Equal(f.Pieces, g.Pieces)
	})
}

// short and texts are what a test tells of records and files.
func short(r api.Record) string {
	return fmt.Sprintf("%d %d %d %d %.20q %d", r.Seq, r.Epoch, r.Kind, r.Site, r.Path, len(r.Pieces))
}

func texts(l []api.File) string {
	var b strings.Builder
	for _, f := range l {
		fmt.Fprintf(&b, "[%.20q %d %d %d]", f.Path, f.Size, f.Seq, len(f.Pieces))
	}
	return b.String()
}
