package archive_test

import (
	"bytes"
	"crypto/sha256"
	"slices"
	"strings"
	"testing"

	"saltern/api"
	"saltern/archive"
	"saltern/disk"
	"saltern/log"
	"saltern/record"
	"saltern/roll"
	"saltern/store"
)

// worded is an archive that is not broken, by the chapter's words: on a device of its own it asks the layers below, one call behind the other, and it makes its files anew of all records.
type worded struct {
	c     api.ArchConf
	d     *disk.Disk
	log   *log.Log
	store *store.Store
	known map[api.Digest][]byte // all chunks that ever were there
}

// worded is the one on a device.
func wordedOn(t *testing.T, d *disk.Disk, c api.ArchConf) *worded {
	t.Helper()
	w := &worded{c: c, d: d, known: map[api.Digest][]byte{}}
	w.open(t)
	return w
}

func (w *worded) open(t *testing.T) {
	t.Helper()
	var e, e2 api.Errno
	w.log, e = log.Open(w.d, api.Extent{At: 0, N: w.c.Log})
	w.store, e2 = store.Open(w.d, api.Extent{At: w.c.Log, N: w.d.Blocks() - w.c.Log})
	if e != api.OK || e2 != api.OK {
		t.Fatalf("Open: %d, %d", e, e2)
	}
}

func (w *worded) vow(epoch int) api.Errno {
	return w.log.Vow(epoch)
}

func (w *worded) lead(epoch, site int) api.Errno {
	if epoch != w.log.Promise() {
		return api.ErrVow
	}
	_, e := w.write(lead(epoch, site))
	return e
}

// write is the chapter's 'a record is written'.
func (w *worded) write(r api.Record) (api.Head, api.Errno) {
	r, e := record.Make(w.log.Head(), r)
	if e != api.OK {
		return api.Head{}, e
	}
	if e := w.lay(r); e != api.OK {
		return api.Head{}, e
	}
	return w.log.Head(), api.OK
}

func (w *worded) lay(r api.Record) api.Errno {
	if _, e := w.log.Append(r); e != api.OK {
		return e
	}
	return w.log.Sync()
}

func wordedPath(s string) bool {
	return len(s) >= 1 && len(s) <= 255 && strings.IndexFunc(s, func(c rune) bool { return c < 33 || c > 126 }) < 0
}

// wordedChunks are those of bytes.
func wordedChunks(c api.RollConf, b []byte) [][]byte {
	var l [][]byte
	for len(b) > 0 {
		n, _, _ := roll.Next(c, b)
		l = append(l, b[:n])
		b = b[n:]
	}
	return l
}

func (w *worded) put(path string, b []byte) (api.Head, api.Errno) {
	files := filesOf(w.log.Records())
	_, there := fileOf(w.log.Records(), path)
	chunks := wordedChunks(w.c.Roll, b)
	switch {
	case !wordedPath(path):
		return api.Head{}, api.ErrArg
	case len(b) > 1048576:
		return api.Head{}, api.ErrLong
	case w.log.Head().Epoch == 0:
		return api.Head{}, api.ErrNobody
	case len(files) == 1024 && !there:
		return api.Head{}, api.ErrMany
	case len(chunks) > 4096:
		return api.Head{}, api.ErrRecord
	}
	r := put(path)
	for _, chunk := range chunks {
		if _, e := w.give(chunk); e != api.OK {
			return api.Head{}, e
		}
		r.Pieces = append(r.Pieces, pieceOf(chunk))
	}
	return w.write(r)
}

func (w *worded) delete(path string) (api.Head, api.Errno) {
	_, there := fileOf(w.log.Records(), path)
	switch {
	case !wordedPath(path):
		return api.Head{}, api.ErrArg
	case w.log.Head().Epoch == 0:
		return api.Head{}, api.ErrNobody
	case !there:
		return api.Head{}, api.ErrNoFile
	}
	return w.write(deletion(path))
}

// get takes the whole file apart, byte by byte.
func (w *worded) get(path string, from, size int) ([]byte, api.Errno) {
	f, there := fileOf(w.log.Records(), path)
	switch {
	case !there:
		return nil, api.ErrNoFile
	case from < 0 || size < 0 || from > f.Size || size > f.Size-from:
		return nil, api.ErrRange
	}
	var b []byte
	at := 0
	for _, p := range f.Pieces {
		if max(at, from) < min(at+p.N, from+size) { // it has some of them
			if chunk, e := w.store.Get(p.D); e != api.OK || len(chunk) != p.N {
				return nil, api.ErrMissing
			}
		}
		for i := range p.N {
			if at >= from && at < from+size {
				b = append(b, w.known[p.D][i])
			}
			at++
		}
	}
	return b, api.OK
}

func (w *worded) list(prefix string) []api.File {
	return slices.DeleteFunc(filesOf(w.log.Records()), func(f api.File) bool {
		return len(f.Path) < len(prefix) || f.Path[:len(prefix)] != prefix
	})
}

func (w *worded) take(r api.Record) api.Errno {
	if _, e := record.Next(w.log.Head(), r); e != api.OK {
		return e
	}
	_, there := fileOf(w.log.Records(), r.Path)
	if r.Kind == api.RDelete && !there {
		return api.ErrNoFile
	}
	if r.Kind == api.RPut && !there && len(filesOf(w.log.Records())) == 1024 {
		return api.ErrMany
	}
	return w.lay(r)
}

func (w *worded) give(b []byte) (api.Digest, api.Errno) {
	w.known[sha256.Sum256(b)] = bytes.Clone(b)
	return w.store.Put(b)
}

func (w *worded) wants() []api.Digest {
	return slices.DeleteFunc(digestsOf(filesOf(w.log.Records())), func(d api.Digest) bool {
		_, e := w.store.Get(d)
		return e == api.OK
	})
}

func (w *worded) cut(seq int) api.Errno { return w.log.Cut(seq) }

func (w *worded) sweep() (int, api.Errno) {
	return w.store.Keep(digestsOf(filesOf(w.log.Records()))...)
}

// agrees asks that an archive tells just what the words say, and that its device holds just the same.
func (w *worded) agrees(t *testing.T, a *archive.Archive, d *disk.Disk) {
	t.Helper()
	l := w.log.Records()
	tellsRecords(t, a, l)
	room, free := a.Free()
	if a.Broken() || a.Promise() != w.log.Promise() || room != w.log.Room() || free != w.store.Free() {
		t.Errorf("%t, %d, %d, %d, not %d, %d, %d", a.Broken(), a.Promise(), room, free, w.log.Promise(), w.log.Room(), w.store.Free())
	}
	for _, prefix := range []string{"", "a", "b/", "b/c", "b/cc", "none"} {
		if files, e := a.List(prefix); !slices.EqualFunc(files, w.list(prefix), sameFile) || e != api.OK {
			t.Errorf("List(%q): %v, %d, not %v", prefix, files, e, w.list(prefix))
		}
	}
	if wants, e := a.Wants(); !slices.Equal(wants, w.wants()) || e != api.OK {
		t.Errorf("Wants: %d, %d, not %d", len(wants), e, len(w.wants()))
	}
	for _, f := range w.list("") {
		if now, e := a.Stat(f.Path); !sameFile(now, f) || e != api.OK {
			t.Errorf("Stat: %v, %d, not %v", now, e, f)
		}
		w.tellsPart(t, a, f.Path, 0, f.Size)
	}
	if d.Open() != w.d.Open() || !alike(held(t, d), held(t, w.d)) {
		t.Error("the devices hold other bytes")
	}
}

// tellsPart asks that both tell the same part of a file.
func (w *worded) tellsPart(t *testing.T, a *archive.Archive, path string, from, size int) {
	t.Helper()
	want, wantE := w.get(path, from, size)
	if b, e := a.Get(path, from, size); !bytes.Equal(b, want) || e != wantE {
		t.Errorf("Get(%s, %d, %d): %d bytes, %d, not %d, %d", path, from, size, len(b), e, len(want), wantE)
	}
}
