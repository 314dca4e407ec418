package archive_test

import (
	"bytes"
	"crypto/sha256"
	"math"
	"slices"
	"testing"

	"saltern/api"
	"saltern/archive"
	"saltern/disk"
)

// P17.4, P17.7, P17.8

// parts asks for each part of a file.
func parts(t *testing.T, a *archive.Archive, path string, b []byte) {
	t.Helper()
	for from := range len(b) + 1 {
		for size := range len(b) - from + 1 {
			reads(t, a, path, from, size, b[from:from+size])
		}
		misses(t, a, path, from, len(b)-from+1, api.ErrRange)
	}
}

func TestGetOfEachPart(t *testing.T) {
	for _, w := range []api.RollConf{even(1), even(2), even(13), even(64), {Least: 3, Most: 12, Bits: 2}} {
		_, a := led(t, 90, api.ArchConf{Log: 20, Roll: w})
		puts(t, a, "none", nil)
		puts(t, a, "a", text(1, 50))
		puts(t, a, "b", bytes.Repeat([]byte("13 bytes, all"), 5))
		parts(t, a, "none", nil)
		parts(t, a, "a", text(1, 50))
		parts(t, a, "b", bytes.Repeat([]byte("13 bytes, all"), 5))
	}
}

func TestGetBesideAFile(t *testing.T) {
	_, a := led(t, 60, conf(20))
	puts(t, a, "a", text(1, 500))
	puts(t, a, "none", nil)
	for _, x := range [][2]int{
		{-1, 0}, {-1, 1}, {0, -1}, {500, -1}, {501, -1}, {501, 0}, {500, 1}, {499, 2}, {0, 501}, {1, 500}, {math.MaxInt, 0}, {0, math.MaxInt},
		{math.MaxInt, math.MaxInt}, {1, math.MaxInt}, {math.MinInt, 0}, {0, math.MinInt}, {math.MinInt, math.MinInt}, {-500, 1000}, {1000, -500}, {math.MinInt, math.MaxInt},
	} {
		misses(t, a, "a", x[0], x[1], api.ErrRange)
		misses(t, a, "none", x[0], x[1], api.ErrRange)
		misses(t, a, "other", x[0], x[1], api.ErrNoFile)
		misses(t, a, "", x[0], x[1], api.ErrNoFile)
		misses(t, a, "a b", x[0], x[1], api.ErrNoFile)
	}
	reads(t, a, "none", 0, 0, nil)
	misses(t, a, "none", 0, 1, api.ErrRange)
	misses(t, a, "none", 1, 0, api.ErrRange)
	reads(t, a, "a", 500, 0, nil)
}

func TestStatAndList(t *testing.T) {
	_, a := led(t, 60, conf(30))
	for _, path := range []string{"b", "a/b", "a", "c", "a/b/c", "ab", "a/a", "~", "!"} {
		puts(t, a, path, []byte(path))
	}
	deletes(t, a, "c")
	puts(t, a, "a", []byte("again"))
	all := filesOf(records(t, a))
	for prefix, want := range map[string][]string{
		"":       {"!", "a", "a/a", "a/b", "a/b/c", "ab", "b", "~"},
		"a":      {"a", "a/a", "a/b", "a/b/c", "ab"},
		"a/":     {"a/a", "a/b", "a/b/c"},
		"a/b":    {"a/b", "a/b/c"},
		"a/b/c":  {"a/b/c"},
		"a/b/cc": nil,
		"c":      nil,
		"B":      nil,
		"a b":    nil,
		"\xff":   nil,
	} {
		files, e := a.List(prefix)
		if len(files) != len(want) || e != api.OK {
			t.Errorf("List(%q): %v, %d", prefix, files, e)
			continue
		}
		for i, f := range files {
			at := slices.IndexFunc(all, func(x api.File) bool { return x.Path == want[i] })
			if !sameFile(f, all[at]) {
				t.Errorf("List(%q): %v, not %v", prefix, f, all[at])
			}
			if f, e := a.Stat(want[i]); !sameFile(f, all[at]) || e != api.OK {
				t.Errorf("Stat(%q): %v, %d", want[i], f, e)
			}
		}
	}
	for _, path := range []string{"c", "", "B", "a/", "a/b/cc", "a b"} {
		if f, e := a.Stat(path); !sameFile(f, api.File{}) || e != api.ErrNoFile {
			t.Errorf("Stat(%q): %v, %d", path, f, e)
		}
	}
}

// places are those of chunks in the blocks of a store that nobody dropped any from: one behind the other, each once.
func places(t *testing.T, first int, chunks [][]byte) map[string]int {
	t.Helper()
	l := map[string]int{}
	for _, c := range chunks {
		if _, there := l[string(c)]; !there {
			l[string(c)] = first
			first += blocksOf(t, [][]byte{c})
		}
	}
	return l
}

// A part is told as long as the chunks that it touches are at hand, whatever the others are.
func TestGetWhereAChunkRots(t *testing.T) {
	c := api.ArchConf{Log: 20, Roll: even(10)}
	b := []byte("one chunk of ten another...another...last of it")
	chunks := wordedChunks(c.Roll, b)
	at := places(t, 20, chunks)
	for _, bad := range chunks {
		d, a := led(t, 40, c)
		puts(t, a, "a", b)
		rots(t, d, at[string(bad)], at[string(bad)]+1)
		for from := range len(b) + 1 {
			for size := range len(b) - from + 1 {
				hit := false
				for i := from; i < from+size; i++ {
					hit = hit || bytes.Equal(chunks[i/10], bad)
				}
				if hit {
					misses(t, a, "a", from, size, api.ErrMissing)
				} else {
					reads(t, a, "a", from, size, b[from:from+size])
				}
			}
		}
		if w, e := a.Wants(); !slices.Equal(w, []api.Digest{sha256.Sum256(bad)}) || e != api.OK {
			t.Errorf("Wants: %v, %d", w, e)
		}
		if x, e := a.Chunk(sha256.Sum256(bad)); len(x) > 0 || e != api.ErrDamaged {
			t.Errorf("Chunk: %d bytes, %d", len(x), e)
		}
		// Opened anew it is not there any more, or still damaged.
		a = opened(t, d, c)
		misses(t, a, "a", 0, len(b), api.ErrMissing)
		ends(t, "Give", gives(a, bad), api.OK)
		parts(t, a, "a", b)
	}
}

func gives(a *archive.Archive, b []byte) api.Errno {
	_, e := a.Give(b)
	return e
}

// A record of elsewhere may say another number of bytes than a chunk has.
func TestGetOfAPieceOfAnotherNumberOfBytes(t *testing.T) {
	_, a := led(t, 60, conf(20))
	first, other := []byte("first chunk"), []byte("other chunk")
	for _, n := range []int{1, len(other) - 1, len(other) + 1, 4096} {
		wrong := api.Piece{D: sha256.Sum256(other), N: n}
		l := rowOf(t, append(records(t, a), put("a", pieceOf(first), wrong, pieceOf(first), pieceOf(other)))...)
		ends(t, "Take", a.Take(l[len(l)-1]), api.OK)
		ends(t, "Give", gives(a, first), api.OK)
		ends(t, "Give", gives(a, other), api.OK)
		end := len(first) + n
		reads(t, a, "a", 0, len(first), first)
		reads(t, a, "a", end, len(first)+len(other), slices.Concat(first, other))
		misses(t, a, "a", len(first)-1, 2, api.ErrMissing)
		misses(t, a, "a", len(first), 1, api.ErrMissing)
		misses(t, a, "a", end-1, 1, api.ErrMissing)
		misses(t, a, "a", 0, end+len(first), api.ErrMissing)
		reads(t, a, "a", len(first), 0, nil)
		reads(t, a, "a", len(first)+n/2, 0, nil)
		if w, e := a.Wants(); len(w) != 0 || e != api.OK {
			t.Errorf("Wants: %v, %d: all chunks are at hand", w, e)
		}
	}
}

// P17.8: whichever bit of the store's blocks rots, each part is the file's, or missing.
func TestGetWhereAnyBitRots(t *testing.T) {
	c := api.ArchConf{Log: 10, Roll: api.RollConf{Least: 20, Most: 200, Bits: 4}}
	d, a := led(t, 16, c)
	b := text(1, 110)
	puts(t, a, "a", b)
	m := held(t, d)
	sizes := len(wordedChunks(c.Roll, b))
	lost := 0
	for i := 10; i < 16; i++ {
		for at := range 512 {
			for _, mask := range []byte{1, 128, 255} {
				ends(t, "Rot", d.Rot(i, at, mask), api.OK)
				told, e := a.Get("a", 0, len(b))
				if e != api.OK && (e != api.ErrMissing || len(told) > 0) || e == api.OK && !bytes.Equal(told, b) {
					t.Fatalf("block %d, byte %d: %d bytes, %d", i, at, len(told), e)
				}
				if e == api.ErrMissing {
					lost++
				}
				ends(t, "Rot", d.Rot(i, at, mask), api.OK)
			}
		}
	}
	if lost < 100*sizes || !alike(held(t, d), m) {
		t.Errorf("%d are lost", lost)
	}
}

// P17.8: chunks that stand in place of others, and bytes that nobody put.
func TestGetWhereBlocksAreOverwritten(t *testing.T) {
	c := api.ArchConf{Log: 10, Roll: even(60)}
	var x chance = 8
	for range 300 {
		d, a := led(t, 34, c)
		files := map[string][]byte{"a": text(1, 400), "b": text(2, 300), "c": x.row(500)}
		for _, path := range []string{"a", "b", "c"} {
			puts(t, a, path, files[path])
		}
		for range 1 + x.below(6) {
			i, k := 10+x.below(24), 10+x.below(24)
			b, _ := d.Read(k)
			if x.below(3) == 0 {
				copy(b[x.below(512):], x.row(40))
			}
			ends(t, "Write", d.Write(i, b), api.OK)
		}
		if x.below(2) == 0 {
			a = opened(t, d, c)
		}
		for path, b := range files {
			from := x.below(len(b))
			size := x.below(len(b) - from + 1)
			if told, e := a.Get(path, from, size); e != api.OK && e != api.ErrMissing || e == api.OK && !bytes.Equal(told, b[from:from+size]) {
				t.Fatalf("%s: %d bytes, %d", path, len(told), e)
			}
		}
	}
}

// P17.7
func TestReadWhatWasPut(t *testing.T) {
	var x chance = 6
	for range 20 {
		d, a := led(t, 200, conf(70))
		files := map[string][]byte{}
		for range 60 {
			path := string(rune('a' + x.below(8)))
			switch x.below(6) {
			case 0:
				if _, there := files[path]; there {
					deletes(t, a, path)
					delete(files, path)
				}
			case 1:
				if _, e := a.Sweep(); e != api.OK {
					t.Fatal(e)
				}
			case 2:
				a = opened(t, d, conf(70))
			default:
				b := append(text(x.below(4), x.below(900)), x.row(x.below(200))...)
				if _, e := a.Put(path, b); e == api.OK {
					files[path] = b
				} else if e != api.ErrFull {
					t.Fatal(e)
				}
			}
			for path, b := range files {
				from := x.below(len(b) + 1)
				size := x.below(len(b) - from + 1)
				reads(t, a, path, from, size, b[from:from+size])
				reads(t, a, path, 0, len(b), b)
			}
			if t.Failed() {
				t.FailNow()
			}
		}
	}
}

// A device that is down: what needs its blocks tells so, with nothing else.
func TestReadsOfADeviceThatIsDown(t *testing.T) {
	d, a := led(t, 60, conf(20))
	b := text(1, 500)
	puts(t, a, "a", b)
	puts(t, a, "none", nil)
	down(t, d)
	misses(t, a, "a", 0, 500, api.ErrDown)
	misses(t, a, "a", 499, 1, api.ErrDown)
	misses(t, a, "a", 0, 501, api.ErrRange)
	misses(t, a, "b", 0, 1, api.ErrNoFile)
	f, _ := a.Stat("a")
	if c, e := a.Chunk(f.Pieces[0].D); len(c) > 0 || e != api.ErrDown {
		t.Errorf("Chunk: %d bytes, %d", len(c), e)
	}
	if c, e := a.Chunk(api.Digest{1}); len(c) > 0 || e != api.ErrNone {
		t.Errorf("Chunk of none: %d bytes, %d", len(c), e)
	}
	if w, e := a.Wants(); len(w) > 0 || e != api.ErrDown {
		t.Errorf("Wants: %d, %d", len(w), e)
	}
}

func down(t *testing.T, d *disk.Disk) {
	t.Helper()
	_, e := d.Lose(nil, -1, 0)
	ends(t, "Lose", e, api.OK)
}
