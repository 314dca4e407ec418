package archive_test

import (
	"bytes"
	"fmt"
	"slices"
	"strings"
	"testing"

	"saltern/api"
	"saltern/pack"
	"saltern/record"
	"saltern/roll"
)

// P17.3, P17.7

// blocksOf is how many blocks some chunks have in a store, each once.
func blocksOf(t *testing.T, chunks [][]byte) int {
	t.Helper()
	seen := map[string]int{}
	sum := 0
	for _, c := range chunks {
		n, e := pack.Blocks(c)
		if e != api.OK {
			t.Fatalf("Blocks of %d bytes: %d", len(c), e)
		}
		if seen[string(c)]++; seen[string(c)] == 1 {
			sum += n
		}
	}
	return sum
}

func TestPut(t *testing.T) {
	var x chance = 17
	for what, b := range map[string][]byte{
		"no bytes":                nil,
		"a byte":                  {7},
		"one chunk":               text(1, 19),
		"as many as one may have": bytes.Repeat([]byte{'x'}, 200),
		"one more":                bytes.Repeat([]byte{'x'}, 201),
		"many chunks":             x.row(3000),
		"alike chunks":            bytes.Repeat(text(2, 200), 9),
	} {
		d, a := led(t, 90, conf(14))
		given := slices.Clone(b)
		h, e := a.Put("docs/a", given)
		if e != api.OK || h.Seq != 2 || h.Epoch != 2 || h != a.Head() {
			t.Errorf("%s: %v, %d", what, h, e)
		}
		if !bytes.Equal(given, b) {
			t.Errorf("%s: what was handed in is changed", what)
		}
		var pieces []api.Piece
		chunks := wordedChunks(conf(14).Roll, b)
		for _, c := range chunks {
			pieces = append(pieces, pieceOf(c))
		}
		row := rowOf(t, lead(2, 0), put("docs/a", pieces...))
		tellsRecords(t, a, row)
		want := api.File{Path: "docs/a", Size: len(b), Seq: 2, Pieces: pieces}
		if f, e := a.Stat("docs/a"); !sameFile(f, want) || e != api.OK {
			t.Errorf("%s: Stat: %v, %d", what, f, e)
		}
		if _, free := a.Free(); free != 90-14-blocksOf(t, chunks) {
			t.Errorf("%s: %d blocks are free, not %d", what, free, 90-14-blocksOf(t, chunks))
		}
		reads(t, a, "docs/a", 0, len(b), b)
		clear(given) // which is not kept
		reads(t, a, "docs/a", 0, len(b), b)
		fused(t, d, 0) // all lasts, so there is nothing to write
		again := opened(t, d, conf(14))
		if state(t, again) != state(t, a) {
			t.Errorf("%s: opened anew:\n%s\nnot\n%s", what, state(t, again), state(t, a))
		}
	}
}

// A file that is put twice, and under another path, takes records alone.
func TestPutOfWhatIsThere(t *testing.T) {
	_, a := led(t, 60, conf(20))
	b := text(1, 1500)
	h := puts(t, a, "a", b)
	room, free := a.Free()
	for i, path := range []string{"a", "b", "a"} {
		h2 := puts(t, a, path, b)
		if h2.Seq != h.Seq+1+i || h2.Epoch != 2 {
			t.Errorf("%v behind %v", h2, h)
		}
		nowRoom, nowFree := a.Free()
		if nowFree != free || nowRoom >= room {
			t.Errorf("%d, %d behind %d, %d", nowRoom, nowFree, room, free)
		}
		if f, _ := a.Stat(path); f.Seq != h2.Seq {
			t.Errorf("Stat: %v", f)
		}
		room = nowRoom
		reads(t, a, "a", 0, len(b), b)
		reads(t, a, path, 0, len(b), b)
	}
	// A few bytes in the midst of it take the chunks around them alone.
	c := slices.Concat(b[:700], []byte("something else"), b[700:])
	puts(t, a, "c", c)
	if _, now := a.Free(); now < free-3 {
		t.Errorf("%d blocks are free, of %d", now, free)
	}
	reads(t, a, "c", 0, len(c), c)
	reads(t, a, "a", 0, len(b), b)
	// The last word counts.
	puts(t, a, "a", []byte("short"))
	reads(t, a, "a", 0, 5, []byte("short"))
	misses(t, a, "a", 0, 6, api.ErrRange)
	reads(t, a, "b", 0, len(b), b)
}

func TestPutBehindDelete(t *testing.T) {
	_, a := led(t, 60, conf(20))
	b := text(1, 900)
	puts(t, a, "a", b)
	_, free := a.Free()
	deletes(t, a, "a")
	misses(t, a, "a", 0, 0, api.ErrNoFile)
	puts(t, a, "a", b)
	reads(t, a, "a", 0, len(b), b)
	if _, now := a.Free(); now != free {
		t.Errorf("%d blocks are free, not %d", now, free)
	}
	if f, e := a.Stat("a"); f.Seq != 4 || e != api.OK {
		t.Errorf("%v, %d", f, e)
	}
	deletes(t, a, "a")
	if n, e := a.Sweep(); n == 0 || e != api.OK {
		t.Errorf("Sweep: %d, %d", n, e)
	}
	puts(t, a, "a", b)
	reads(t, a, "a", 0, len(b), b)
}

func TestDelete(t *testing.T) {
	d, a := led(t, 60, conf(20))
	puts(t, a, "a", text(1, 100))
	puts(t, a, "b", text(2, 100))
	was, _ := a.Stat("b")
	h, e := a.Delete("a")
	row := rowOf(t, append(records(t, a)[:3], deletion("a"))...)
	if e != api.OK || h != headOf(t, row) {
		t.Errorf("%v, %d", h, e)
	}
	tellsRecords(t, a, row)
	misses(t, a, "a", 0, 0, api.ErrNoFile)
	if f, e := a.Stat("b"); !sameFile(f, was) || e != api.OK {
		t.Errorf("%v, %d", f, e)
	}
	if h, e := a.Delete("a"); h != (api.Head{}) || e != api.ErrNoFile {
		t.Errorf("twice: %v, %d", h, e)
	}
	fused(t, d, 0)
	tellsRecords(t, opened(t, d, conf(20)), row)
}

// wrongPaths are texts that are none.
func wrongPaths() []string {
	return []string{"", " ", "a b", "a\x20", "\x7f", "a\x00", "a\n", "é", "\xff", strings.Repeat("p", 256), strings.Repeat("p", 1<<16)}
}

func goodPaths() []string {
	return []string{"!", "~", "a", "../a", "/", "a//b", strings.Repeat("p", 255)}
}

func TestPaths(t *testing.T) {
	_, a := led(t, 60, conf(40))
	for _, path := range goodPaths() {
		puts(t, a, path, []byte(path))
		reads(t, a, path, 0, len(path), []byte(path))
	}
	was := state(t, a)
	for _, path := range wrongPaths() {
		h, e := a.Put(path, nil)
		h2, e2 := a.Delete(path)
		if e != api.ErrArg || e2 != api.ErrArg || h != (api.Head{}) || h2 != (api.Head{}) {
			t.Errorf("%.20q: %v, %d, %v, %d", path, h, e, h2, e2)
		}
		if f, e := a.Stat(path); !sameFile(f, api.File{}) || e != api.ErrNoFile {
			t.Errorf("%.20q: Stat: %v, %d", path, f, e)
		}
		misses(t, a, path, 0, 0, api.ErrNoFile)
	}
	if state(t, a) != was {
		t.Error("something is changed")
	}
	for _, path := range goodPaths() {
		deletes(t, a, path)
	}
}

// The greatest file, and one byte more.
func TestPutOfMaxFile(t *testing.T) {
	c := api.ArchConf{Log: 200, Roll: api.RollConf{Least: 2048, Most: 4096, Bits: 12}}
	_, a := led(t, 4096, c)
	var x chance = 3
	b := x.row(1 << 20)
	h := puts(t, a, "a", b)
	reads(t, a, "a", 0, 1<<20, b)
	reads(t, a, "a", 1<<20-1, 1, b[1<<20-1:])
	reads(t, a, "a", 500000, 70000, b[500000:570000])
	was, is := a.Free()
	for _, n := range []int{1<<20 + 1, 1 << 21} {
		if h, e := a.Put("b", make([]byte, n)); h != (api.Head{}) || e != api.ErrLong {
			t.Errorf("%d bytes: %v, %d", n, h, e)
		}
	}
	now, free := a.Free()
	if a.Head() != h || now != was || free != is {
		t.Errorf("%v, %d, %d, not %v, %d, %d", a.Head(), now, free, h, was, is)
	}
}

func TestPutOfMaxPieces(t *testing.T) {
	for _, n := range []int{1, 256} {
		d, a := led(t, 1000, api.ArchConf{Log: 700, Roll: even(n)})
		b := text(1, 4096*n)
		h := puts(t, a, "a", b)
		reads(t, a, "a", 0, len(b), b)
		reads(t, a, "a", 1000*n, n+1, b[1000*n:1001*n+1])
		was := held(t, d)
		want := api.ErrRecord
		if 4096*n == 1<<20 { // so that one piece more is too many bytes, too
			want = api.ErrLong
		}
		for _, more := range []int{1, 2, 700} {
			if h, e := a.Put("b", bytes.Repeat([]byte{'Z'}, 4096*n+more)); h != (api.Head{}) || e != want {
				t.Errorf("%d pieces and %d bytes: %v, %d, not %d", 4096, more, h, e, want)
			}
		}
		if a.Head() != h || !alike(held(t, d), was) {
			t.Error("something is changed")
		}
	}
}

func TestPutOfMaxFiles(t *testing.T) {
	_, a := led(t, 1100, conf(1060))
	for i := range 1024 {
		puts(t, a, fmt.Sprint("p", i), nil)
	}
	was := state(t, a)
	for _, b := range [][]byte{nil, []byte("bytes"), make([]byte, 1<<20)} {
		if h, e := a.Put("one-more", b); h != (api.Head{}) || e != api.ErrMany {
			t.Errorf("%v, %d", h, e)
		}
	}
	if h, e := a.Put("one more", nil); h != (api.Head{}) || e != api.ErrArg {
		t.Errorf("%v, %d", h, e)
	}
	if h, e := a.Put("one-more", make([]byte, 1<<20+1)); h != (api.Head{}) || e != api.ErrLong {
		t.Errorf("%v, %d", h, e)
	}
	if state(t, a) != was {
		t.Error("something is changed")
	}
	puts(t, a, "p7", []byte("another"))
	reads(t, a, "p7", 0, 7, []byte("another"))
	deletes(t, a, "p9")
	puts(t, a, "one-more", []byte("bytes"))
	if _, e := a.Put("p9", nil); e != api.ErrMany {
		t.Errorf("%d", e)
	}
	if _, e := a.Put("p9", make([]byte, 1<<20)); e != api.ErrMany {
		t.Errorf("ahead of its chunks: %d", e)
	}
	if files, e := a.List("p"); len(files) != 1023 || e != api.OK {
		t.Errorf("%d, %d", len(files), e)
	}
}

// With so many files, MaxFiles counts ahead of the number of chunks.
func TestPutOfMoreFilesAndMorePieces(t *testing.T) {
	_, a := led(t, 1100, api.ArchConf{Log: 1060, Roll: even(1)})
	for i := range 1024 {
		puts(t, a, fmt.Sprint("p", i), nil)
	}
	if _, e := a.Put("q", make([]byte, 4097)); e != api.ErrMany {
		t.Errorf("%d", e)
	}
	if _, e := a.Put("p1", make([]byte, 4097)); e != api.ErrRecord {
		t.Errorf("%d", e)
	}
}

func TestPutAndDeleteAheadOfALead(t *testing.T) {
	d := diskOf(t, 60)
	a := opened(t, d, api.ArchConf{Log: 20, Roll: even(1)})
	ends(t, "Vow", a.Vow(2), api.OK)
	was := held(t, d)
	for _, c := range []struct {
		path string
		n    int
		want api.Errno
	}{
		{"a", 0, api.ErrNobody},
		{"a", 1, api.ErrNobody},
		{"a", 4097, api.ErrNobody},
		{"a", 1 << 20, api.ErrNobody},
		{"a", 1<<20 + 1, api.ErrLong},
		{"", 1<<20 + 1, api.ErrArg},
		{"", 0, api.ErrArg},
	} {
		if h, e := a.Put(c.path, make([]byte, c.n)); h != (api.Head{}) || e != c.want {
			t.Errorf("Put(%q, %d): %v, %d, not %d", c.path, c.n, h, e, c.want)
		}
	}
	for path, want := range map[string]api.Errno{"a": api.ErrNobody, "": api.ErrArg, "a b": api.ErrArg} {
		if h, e := a.Delete(path); h != (api.Head{}) || e != want {
			t.Errorf("Delete(%q): %v, %d, not %d", path, h, e, want)
		}
	}
	if !alike(held(t, d), was) || a.Head() != (api.Head{}) {
		t.Error("something is changed")
	}
}

// A store without room ends a Put; chunks that had room stay, for all that is there has no file of them.
func TestPutWithoutRoomForChunks(t *testing.T) {
	_, a := led(t, 30, api.ArchConf{Log: 20, Roll: even(400)})
	var x chance = 5
	b := x.row(400 * 6)
	puts(t, a, "a", b[:400])
	was, files := a.Head(), filesState(t, a)
	if h, e := a.Put("b", append(x.row(400*10), b...)); h != (api.Head{}) || e != api.ErrFull {
		t.Errorf("%v, %d", h, e)
	}
	if _, free := a.Free(); a.Head() != was || filesState(t, a) != files || free != 0 {
		t.Errorf("%v, %d: %s, not %s", a.Head(), free, filesState(t, a), files)
	}
	if n, e := a.Sweep(); n != 9 || e != api.OK {
		t.Errorf("Sweep: %d, %d", n, e)
	}
	puts(t, a, "b", b)
	reads(t, a, "b", 0, len(b), b)
	reads(t, a, "a", 0, 400, b[:400])
}

func TestPutWithoutRoomForItsRecord(t *testing.T) {
	_, a := led(t, 60, api.ArchConf{Log: 5, Roll: even(40)})
	puts(t, a, "a", text(1, 300))
	was, files := a.Head(), filesState(t, a)
	room, free := a.Free()
	if h, e := a.Put("b", text(2, 900)); h != (api.Head{}) || e != api.ErrFull || room != 1 {
		t.Errorf("%v, %d, room for %d", h, e, room)
	}
	now, left := a.Free()
	if a.Head() != was || filesState(t, a) != files || now != room || left >= free {
		t.Errorf("%v, %d, %d: %s, not %s", a.Head(), now, left, filesState(t, a), files)
	}
	puts(t, a, "b", text(2, 200))
	was, files = a.Head(), filesState(t, a)
	h, e := a.Put("c", nil)
	h2, e2 := a.Delete("a")
	if e != api.ErrFull || e2 != api.ErrFull || h != (api.Head{}) || h2 != (api.Head{}) {
		t.Errorf("%v, %d, %v, %d", h, e, h2, e2)
	}
	if a.Head() != was || filesState(t, a) != files {
		t.Error("something is changed")
	}
}

// A chunk that rots is mended by a Put of it.
func TestPutMends(t *testing.T) {
	d, a := led(t, 60, conf(20))
	b := text(1, 800)
	puts(t, a, "a", b)
	rots(t, d, 20, 60)
	misses(t, a, "a", 0, 800, api.ErrMissing)
	puts(t, a, "b", b)
	reads(t, a, "a", 0, 800, b)
	reads(t, a, "b", 0, 800, b)
}

// Files are cut as the settings say.
func TestPutCuts(t *testing.T) {
	for _, w := range []api.RollConf{even(1), even(7), even(300), {Least: 1, Most: 4096, Bits: 3}, {Least: 64, Most: 256, Bits: 6}, {Least: 9, Most: 20}} {
		_, a := led(t, 3000, api.ArchConf{Log: 300, Roll: w})
		b := text(4, 1000)
		puts(t, a, "a", b)
		f, e := a.Stat("a")
		sizes, _ := roll.Cuts(w, b)
		var l []int
		for _, p := range f.Pieces {
			l = append(l, p.N)
		}
		if !slices.Equal(l, sizes) || e != api.OK {
			t.Errorf("%v: %v, %d, not %v", w, l, e, sizes)
		}
		reads(t, a, "a", 0, 1000, b)
	}
}

// What is told shares no memory with what is there.
func TestAnswersAreNew(t *testing.T) {
	d, a := led(t, 60, conf(20))
	b := text(1, 800)
	puts(t, a, "a", b)
	was := state(t, a)
	told, _ := a.Get("a", 0, 800)
	clear(told)
	f, _ := a.Stat("a")
	chunk, _ := a.Chunk(f.Pieces[0].D)
	clear(chunk)
	clear(f.Pieces)
	l, _ := a.List("")
	clear(l[0].Pieces)
	clear(l)
	r, _ := a.At(2)
	clear(r.Pieces)
	if now := state(t, a); now != was {
		t.Errorf("%s\nnot\n%s", now, was)
	}
	rots(t, d, 20, 60)
	was = state(t, a)
	w, _ := a.Wants()
	clear(w)
	if now := state(t, a); now != was {
		t.Errorf("%s\nnot\n%s", now, was)
	}
	if r, e := a.At(2); !record.Same(r, records(t, a)[1]) || e != api.OK {
		t.Errorf("%v, %d", r, e)
	}
}

// The least log has room for a lead alone, and the least store for a chunk of one block.
func TestPutIntoTheLeastLogAndStore(t *testing.T) {
	for _, blocks := range []int{4, 5, 60} {
		_, a := led(t, blocks, conf(3))
		if room, free := a.Free(); room != 0 || free != blocks-3 {
			t.Errorf("%d, %d", room, free)
		}
		was := state(t, a)
		if h, e := a.Put("a", nil); h != (api.Head{}) || e != api.ErrFull {
			t.Errorf("%v, %d", h, e)
		}
		ends(t, "Vow", a.Vow(3), api.OK)
		ends(t, "Lead", a.Lead(3, 0), api.ErrFull)
		ends(t, "Cut", a.Cut(0), api.OK)
		ends(t, "Lead", a.Lead(3, 0), api.OK)
		if state(t, a) == was || a.Head().Epoch != 3 {
			t.Errorf("%v", a.Head())
		}
	}
	for _, blocks := range []int{6, 60} {
		d, a := led(t, blocks, api.ArchConf{Log: blocks - 1, Roll: even(300)})
		b := text(1, 300)
		puts(t, a, "a", b)
		if room, free := a.Free(); room != blocks-5 || free != 0 {
			t.Errorf("%d, %d", room, free)
		}
		if h, e := a.Put("a", text(2, 300)); h != (api.Head{}) || e != api.ErrFull {
			t.Errorf("%v, %d", h, e)
		}
		reads(t, a, "a", 0, 300, b)
		puts(t, a, "b", b)
		a = opened(t, d, api.ArchConf{Log: blocks - 1, Roll: even(300)})
		reads(t, a, "b", 100, 200, b[100:])
	}
}
