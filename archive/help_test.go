package archive_test

import (
	"bytes"
	"crypto/sha256"
	"fmt"
	"slices"
	"strings"
	"testing"

	"saltern/api"
	"saltern/archive"
	"saltern/disk"
	"saltern/record"
)

// chance is numbers without a pattern, always the same ones.
type chance uint64

func (c *chance) below(n int) int {
	*c = *c*6364136223846793005 + 1442695040888963407
	return int(uint64(*c)>>33) % n
}

// row is n bytes without a pattern.
func (c *chance) row(n int) []byte {
	b := make([]byte, n)
	for i := range b {
		b[i] = byte(c.below(256))
	}
	return b
}

// text is n bytes whose pattern hangs on a seed; they pack well.
func text(seed, n int) []byte {
	b := make([]byte, n)
	for i := range b {
		b[i] = byte('a' + (i/5+seed*i/7+seed)%20)
	}
	return b
}

// conf has a log of so many blocks, and small chunks.
func conf(log int) api.ArchConf {
	return api.ArchConf{Log: log, Roll: api.RollConf{Least: 20, Most: 200, Bits: 5}}
}

// even is a way to cut all n bytes.
func even(n int) api.RollConf {
	return api.RollConf{Least: n, Most: n, Bits: 20}
}

// image is what a device's blocks hold.
type image [][]byte

func zeros(n int) image {
	m := make(image, n)
	for i := range m {
		m[i] = make([]byte, 512)
	}
	return m
}

// with is an image with bytes from a block on.
func (m image) with(at int, b []byte) image {
	next := slices.Clone(m)
	for p := range slices.Chunk(b, 512) {
		next[at] = append(slices.Clone(p), make([]byte, 512-len(p))...)
		at++
	}
	return next
}

// device is one that holds an image.
func (m image) device(t *testing.T) *disk.Disk {
	t.Helper()
	d := diskOf(t, len(m))
	empty := make([]byte, 512)
	for i, b := range m {
		if bytes.Equal(b, empty) {
			continue
		}
		ends(t, "Write", d.Write(i, b), api.OK)
	}
	_, e := d.Sync()
	ends(t, "Sync", e, api.OK)
	return d
}

// held is the image of a device.
func held(t *testing.T, d *disk.Disk) image {
	t.Helper()
	var m image
	for i := range d.Blocks() {
		b, e := d.Read(i)
		if e != api.OK {
			t.Fatalf("Read(%d): %d", i, e)
		}
		m = append(m, b)
	}
	return m
}

func alike(a, b image) bool { return slices.EqualFunc(a, b, bytes.Equal) }

// diskOf is a device of n zero blocks.
func diskOf(t *testing.T, n int) *disk.Disk {
	t.Helper()
	d, e := disk.New(n)
	if e != api.OK {
		t.Fatalf("New(%d): %d", n, e)
	}
	return d
}

func fused(t *testing.T, d *disk.Disk, n int) {
	t.Helper()
	ends(t, "Fuse", d.Fuse(n), api.OK)
}

// ends asks that a call ended with an error.
func ends(t *testing.T, what string, e, want api.Errno) {
	t.Helper()
	if e != want {
		t.Errorf("%s: %d, not %d", what, e, want)
	}
}

func opened(t *testing.T, d *disk.Disk, c api.ArchConf) *archive.Archive {
	t.Helper()
	a, e := archive.Open(d, c)
	if a == nil || e != api.OK {
		t.Fatalf("Open: %v, %d", a, e)
	}
	return a
}

// led is a device of n blocks with an archive of which site 0 leads the epoch 2.
func led(t *testing.T, n int, c api.ArchConf) (*disk.Disk, *archive.Archive) {
	t.Helper()
	d := diskOf(t, n)
	a := opened(t, d, c)
	ends(t, "Vow", a.Vow(2), api.OK)
	ends(t, "Lead", a.Lead(2, 0), api.OK)
	return d, a
}

// puts puts a file, which must be taken.
func puts(t *testing.T, a *archive.Archive, path string, b []byte) api.Head {
	t.Helper()
	h, e := a.Put(path, b)
	if e != api.OK || h != a.Head() {
		t.Fatalf("Put(%.20s, %d bytes): %v, %d", path, len(b), h, e)
	}
	return h
}

func deletes(t *testing.T, a *archive.Archive, path string) {
	t.Helper()
	if h, e := a.Delete(path); e != api.OK || h != a.Head() {
		t.Fatalf("Delete(%.20s): %v, %d", path, h, e)
	}
}

// reads asks that a part of a file is told.
func reads(t *testing.T, a *archive.Archive, path string, from, size int, want []byte) {
	t.Helper()
	if b, e := a.Get(path, from, size); !bytes.Equal(b, want) || e != api.OK {
		t.Errorf("Get(%.20s, %d, %d): %d bytes, %d: %.40q, not %.40q", path, from, size, len(b), e, b, want)
	}
}

// misses asks that a part of a file is not told, for a reason.
func misses(t *testing.T, a *archive.Archive, path string, from, size int, want api.Errno) {
	t.Helper()
	if b, e := a.Get(path, from, size); len(b) > 0 || e != want {
		t.Errorf("Get(%.20s, %d, %d): %d bytes, %d, not %d", path, from, size, len(b), e, want)
	}
}

// records are all of an archive's.
func records(t *testing.T, a *archive.Archive) []api.Record {
	t.Helper()
	var l []api.Record
	for seq := 1; seq <= a.Head().Seq; seq++ {
		r, e := a.At(seq)
		if e != api.OK {
			t.Fatalf("At(%d): %d", seq, e)
		}
		l = append(l, r)
	}
	return l
}

// rowOf are records that follow the zero head, made of what they say.
func rowOf(t *testing.T, l ...api.Record) []api.Record {
	t.Helper()
	var h api.Head
	for i, r := range l {
		var e api.Errno
		if l[i], e = record.Make(h, r); e != api.OK {
			t.Fatalf("Make of %v behind %v: %d", r, h, e)
		}
		h = headOf(t, l[:i+1])
	}
	return l
}

// headOf is the last one's head; of none the zero one.
func headOf(t *testing.T, l []api.Record) api.Head {
	t.Helper()
	if len(l) == 0 {
		return api.Head{}
	}
	r := l[len(l)-1]
	b, e := record.Bytes(r)
	if e != api.OK {
		t.Fatalf("Bytes of %v: %d", r, e)
	}
	return api.Head{Seq: r.Seq, Epoch: r.Epoch, Chain: sha256.Sum256(b)}
}

func lead(epoch, site int) api.Record {
	return api.Record{Kind: api.RLead, Epoch: epoch, Site: site}
}

func put(path string, pieces ...api.Piece) api.Record {
	return api.Record{Kind: api.RPut, Path: path, Pieces: pieces}
}

func deletion(path string) api.Record {
	return api.Record{Kind: api.RDelete, Path: path}
}

// pieceOf is a chunk's.
func pieceOf(chunk []byte) api.Piece {
	return api.Piece{D: sha256.Sum256(chunk), N: len(chunk)}
}

// filesOf are what records make of no files, by paths: of each path the last record's, if that puts.
func filesOf(l []api.Record) []api.File {
	var paths []string
	for _, r := range l {
		if r.Kind != api.RLead {
			paths = append(paths, r.Path)
		}
	}
	slices.Sort(paths)
	var files []api.File
	for _, path := range slices.Compact(paths) {
		var last api.Record
		for _, r := range l {
			if r.Kind != api.RLead && r.Path == path {
				last = r
			}
		}
		if last.Kind == api.RDelete {
			continue
		}
		f := api.File{Path: path, Seq: last.Seq, Pieces: last.Pieces}
		for _, p := range f.Pieces {
			f.Size += p.N
		}
		files = append(files, f)
	}
	return files
}

// fileOf is that of a path.
func fileOf(l []api.Record, path string) (api.File, bool) {
	for _, f := range filesOf(l) {
		if f.Path == path {
			return f, true
		}
	}
	return api.File{}, false
}

func sameFile(a, b api.File) bool {
	return a.Path == b.Path && a.Size == b.Size && a.Seq == b.Seq && slices.Equal(a.Pieces, b.Pieces)
}

// digestsOf are those of all pieces of some files, rising, each once.
func digestsOf(files []api.File) []api.Digest {
	var l []api.Digest
	for _, f := range files {
		for _, p := range f.Pieces {
			l = append(l, p.D)
		}
	}
	slices.SortFunc(l, func(a, b api.Digest) int { return bytes.Compare(a[:], b[:]) })
	return slices.Compact(l)
}

// state is all that an archive tells, as a text.
func state(t *testing.T, a *archive.Archive) string {
	t.Helper()
	var s strings.Builder
	log, store := a.Free()
	fmt.Fprintln(&s, a.Broken(), a.Head(), a.Promise(), log, store)
	for seq := -1; seq <= a.Head().Seq+1; seq++ {
		h, e := a.HeadAt(seq)
		r, e2 := a.At(seq)
		fmt.Fprintln(&s, h, e, r, e2)
	}
	s.WriteString(filesState(t, a))
	return s.String()
}

// filesState is what it tells of its files, and all their bytes.
func filesState(t *testing.T, a *archive.Archive) string {
	t.Helper()
	var s strings.Builder
	files, e := a.List("")
	fmt.Fprintln(&s, len(files), e)
	for _, f := range files {
		b, e := a.Get(f.Path, 0, f.Size)
		fmt.Fprintln(&s, f, sha256.Sum256(b), len(b), e)
	}
	wants, e := a.Wants()
	fmt.Fprintln(&s, wants, e)
	return s.String()
}

// unmade are the archives that Open did not make.
func unmade() map[string]*archive.Archive {
	return map[string]*archive.Archive{"nil": nil, "zero": {}}
}

// call is one of an archive, and what it answered: its error, and whether all else is zero.
type call struct {
	name string
	do   func(a *archive.Archive) (api.Errno, bool)
}

// calls are all those that a broken archive refuses, with arguments that are fine and with some that are not.
func calls() []call {
	var l []call
	note := func(name string, do func(a *archive.Archive) (api.Errno, bool)) {
		l = append(l, call{name, do})
	}
	for _, n := range []int{-1, 0, 1, 2, 3, 1 << 31} {
		note(fmt.Sprint("Vow ", n), func(a *archive.Archive) (api.Errno, bool) { return a.Vow(n), true })
		note(fmt.Sprint("Lead ", n), func(a *archive.Archive) (api.Errno, bool) { return a.Lead(n, n), true })
		note(fmt.Sprint("Cut ", n), func(a *archive.Archive) (api.Errno, bool) { return a.Cut(n), true })
	}
	for _, path := range []string{"", "a", "none", "a b"} {
		for _, n := range []int{0, 1, 1<<20 + 1} {
			note(fmt.Sprintf("Put %q %d", path, n), func(a *archive.Archive) (api.Errno, bool) {
				h, e := a.Put(path, make([]byte, n))
				return e, h == api.Head{}
			})
			note(fmt.Sprintf("Get %q %d", path, n), func(a *archive.Archive) (api.Errno, bool) {
				b, e := a.Get(path, n, n)
				return e, len(b) == 0
			})
		}
		note(fmt.Sprintf("Delete %q", path), func(a *archive.Archive) (api.Errno, bool) {
			h, e := a.Delete(path)
			return e, h == api.Head{}
		})
		note(fmt.Sprintf("Stat %q", path), func(a *archive.Archive) (api.Errno, bool) {
			f, e := a.Stat(path)
			return e, sameFile(f, api.File{})
		})
		note(fmt.Sprintf("List %q", path), func(a *archive.Archive) (api.Errno, bool) {
			files, e := a.List(path)
			return e, len(files) == 0
		})
	}
	for _, n := range []int{0, 1, 4096, 4097} {
		note(fmt.Sprint("Give ", n), func(a *archive.Archive) (api.Errno, bool) {
			d, e := a.Give(make([]byte, n))
			return e, d == api.Digest{}
		})
	}
	for _, r := range []api.Record{{}, lead(3, 0), {Kind: api.RLead, Seq: 1, Epoch: 1}} {
		note(fmt.Sprint("Take ", r), func(a *archive.Archive) (api.Errno, bool) { return a.Take(r), true })
	}
	note("Chunk", func(a *archive.Archive) (api.Errno, bool) {
		b, e := a.Chunk(sha256.Sum256([]byte("a")))
		return e, len(b) == 0
	})
	note("Wants", func(a *archive.Archive) (api.Errno, bool) {
		w, e := a.Wants()
		return e, len(w) == 0
	})
	note("Sweep", func(a *archive.Archive) (api.Errno, bool) {
		n, e := a.Sweep()
		return e, n == 0
	})
	return l
}

// rots turns a bit of each of some blocks, which no head and no chunk outlives.
func rots(t *testing.T, d *disk.Disk, from, to int) {
	t.Helper()
	for i := from; i < to; i++ {
		ends(t, "Rot", d.Rot(i, 46, 1), api.OK)
	}
}
