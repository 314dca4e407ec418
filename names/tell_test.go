package names_test

import (
	"slices"
	"strings"
	"testing"

	"saltern/api"
	"saltern/names"
)

// some is records of paths that begin one another, with pieces that stand in two files and twice in one.
func some() done {
	return done{
		lead(1, 0),
		put(2, "b/c", sized(1, 4, 4)...),
		put(3, "b", sized(2, 4)...),
		put(4, "B", api.Piece{D: digest(9), N: 1}, api.Piece{D: digest(3), N: 6}, api.Piece{D: digest(9), N: 1}),
		put(5, "b/"),
		put(6, "bb", sized(0, 4096)...),
		put(7, "b-c", sized(1, 4)...),
		put(8, "a~", sized(6, 1, 1)...),
		put(9, "b/c/d", sized(1, 4, 4)...),
		put(10, "gone", sized(5, 1, 1)...),
		del(11, "gone"),
	}
}

// P15.2: a file, by its whole path alone.
func TestStat(t *testing.T) {
	n := of(t, some()...)
	f, e := n.Stat("B")
	want := api.File{Path: "B", Size: 8, Seq: 4, Pieces: []api.Piece{{D: digest(9), N: 1}, {D: digest(3), N: 6}, {D: digest(9), N: 1}}}
	if e != api.OK || !alike([]api.File{f}, []api.File{want}) {
		t.Errorf("%v, %d", f, e)
	}
	f, e = n.Stat("b/")
	if e != api.OK || !alike([]api.File{f}, []api.File{{Path: "b/", Seq: 5}}) {
		t.Errorf("of no pieces: %v, %d", f, e)
	}
	for _, p := range []string{"", "b/c/", "b/C", "bbb", "a", "gone", "B ", "b\x00", strings.Repeat("b", 256)} {
		if f, e := n.Stat(p); e != api.ErrNoFile || !alike([]api.File{f}, []api.File{{}}) || f.Pieces != nil {
			t.Errorf("%.20q: %v, %d", p, f, e)
		}
	}
}

// P15.2: by Path, rising byte by byte, those that begin so.
func TestList(t *testing.T) {
	n := of(t, some()...)
	for prefix, want := range map[string][]string{
		"":                       {"B", "a~", "b", "b-c", "b/", "b/c", "b/c/d", "bb"},
		"b":                      {"b", "b-c", "b/", "b/c", "b/c/d", "bb"},
		"b/":                     {"b/", "b/c", "b/c/d"},
		"b/c":                    {"b/c", "b/c/d"},
		"b/c/d":                  {"b/c/d"}, // a whole path
		"B":                      {"B"},
		"a":                      {"a~"},
		"bb":                     {"bb"},
		"b/c/d/":                 nil,
		"bbb":                    nil,
		"c":                      nil, // within a path, not at its beginning
		"gone":                   nil,
		"go":                     nil,
		" ":                      nil,
		"b ":                     nil,
		"\x00":                   nil,
		"\xff":                   nil,
		strings.Repeat("b", 300): nil,
	} {
		l := n.List(prefix)
		var got []string
		for _, f := range l {
			got = append(got, f.Path)
		}
		if !slices.Equal(got, want) {
			t.Errorf("%.20q: %q, not %q", prefix, got, want)
		}
		if !alike(l, some().list(prefix)) {
			t.Errorf("%.20q: %v", prefix, l)
		}
	}
}

// P15.2: the order is that of the bytes, whatever the order in which they were put.
func TestListOfEachByte(t *testing.T) {
	var l done
	for k := range 94 {
		c := string(rune(33 + (k*37)%94))
		l = append(l, put(k+1, c), put(k+1, c+"!", sized(k, 1)...), put(k+1, "m"+c))
	}
	tells(t, "each byte", of(t, l...), l, "m", "!", "~", "m~", "M")
}

// P15.2: rising, each once, of the files that are there.
func TestDigests(t *testing.T) {
	l := done{put(1, "a", api.Piece{D: api.Digest{2}, N: 1}, api.Piece{D: api.Digest{1, 31: 1}, N: 1}, api.Piece{D: api.Digest{2}, N: 1})}
	n := of(t, l...)
	same := func(what string, want ...api.Digest) {
		t.Helper()
		if got := n.Digests(); !slices.Equal(got, want) {
			t.Errorf("%s: %v, not %v", what, got, want)
		}
	}
	same("twice in one file", api.Digest{1, 31: 1}, api.Digest{2})
	applies(t, n, put(2, "b", api.Piece{D: api.Digest{2}, N: 7}, api.Piece{D: api.Digest{1, 31: 255}, N: 1}, api.Piece{D: api.Digest{255}, N: 1}))
	same("one of other bytes in two", api.Digest{1, 31: 1}, api.Digest{1, 31: 255}, api.Digest{2}, api.Digest{255})
	applies(t, n, put(3, "c", api.Piece{N: 1}))
	same("the one of zeros", api.Digest{}, api.Digest{1, 31: 1}, api.Digest{1, 31: 255}, api.Digest{2}, api.Digest{255})
	applies(t, n, del(4, "a"))
	same("one file gone", api.Digest{}, api.Digest{1, 31: 255}, api.Digest{2}, api.Digest{255})
	applies(t, n, put(5, "b", api.Piece{D: api.Digest{3}, N: 1}))
	same("one put again", api.Digest{}, api.Digest{3})
	applies(t, n, put(6, "b"))
	applies(t, n, put(7, "c"))
	same("no pieces")
	applies(t, n, del(8, "b"))
	applies(t, n, del(9, "c"))
	same("no files")
}

// P15.2: what is Applied to one of the two, of each kind, does not change the other.
func TestCopy(t *testing.T) {
	l := some()
	more := done{put(12, "b", sized(7, 9)...), put(13, "new", sized(0, 1)...), del(14, "B"), lead(15, 1), put(16, "b/c")}
	n := of(t, l...)
	for _, r := range more {
		c := n.Copy()
		tells(t, "a copy", c, l, "b", "new", "B")
		applies(t, c, r)
		tells(t, "to the copy", n, l, "b", "new", "B")
		tells(t, "the copy", c, append(slices.Clone(l), r), "b", "new", "B")
		c = n.Copy()
		applies(t, n, r)
		tells(t, "to the other", c, l, "b", "new", "B")
		l = append(l, r)
		tells(t, "the other", n, l, "b", "new", "B")
	}
	c := n.Copy().Copy()
	applies(t, c, put(20, "only"))
	tells(t, "a copy of a copy", n, l, "only")
}

// P15.2: one of many files, all of whose places are found in the copy.
func TestCopyOfManyFiles(t *testing.T) {
	l := done(crowd(1024))
	n := of(t, l...)
	c := n.Copy()
	for k := range 1024 {
		applies(t, n, del(1, pathOf(k)))
	}
	tells(t, "none", n, nil)
	tells(t, "all", c, l)
	applies(t, n, put(1, "a"))
	refuses(t, c, put(1, "a"), api.ErrMany)
}

// Rule 4: what is handed in is neither changed nor kept.
func TestWhatIsHandedInIsNotKept(t *testing.T) {
	l := some()
	was := some()
	n := of(t, l...)
	m := names.New()
	for _, r := range l {
		applies(t, m, r)
	}
	for i := range l {
		if !slices.Equal(l[i].Pieces, was[i].Pieces) || short(l[i]) != short(was[i]) {
			t.Errorf("record %d was changed", i)
		}
	}
	for i := range l {
		for k := range l[i].Pieces {
			l[i].Pieces[k] = api.Piece{D: api.Digest{77}, N: 77}
		}
		l[i] = api.Record{}
	}
	tells(t, "Of", n, was, "b")
	tells(t, "Apply", m, was, "b")
}

// Rule 4: an answer shares no memory with the namespace, its copies or another answer.
func TestAnswersAreNewMemory(t *testing.T) {
	l := some()
	n := of(t, l...)
	c := n.Copy()
	f, _ := n.Stat("b/c")
	again, _ := n.Stat("b/c")
	spoil(f.Pieces)
	if !slices.Equal(again.Pieces, sized(1, 4, 4)) {
		t.Error("Stat shares with another answer")
	}
	files, others := n.List("b"), n.List("")
	for i := range files {
		spoil(files[i].Pieces)
		files[i] = api.File{}
	}
	if !alike(others, l.files()) {
		t.Error("List shares with another answer")
	}
	clear(n.Digests())
	parts, _ := n.Seek("b/c", 0, 8)
	clear(parts)
	tells(t, "the namespace", n, l, "b")
	tells(t, "the copy", c, l, "b")
}

// spoil changes pieces, and what is behind them in their memory.
func spoil(l []api.Piece) {
	l = l[:cap(l)]
	for i := range l {
		l[i] = api.Piece{D: api.Digest{99}, N: 99}
	}
}

// Rule 4: two lists of one answer share no memory, nor what is behind them.
func TestListsOfOneAnswerAreApart(t *testing.T) {
	l := done{put(1, "a", sized(0, 3, 4, 5)...), put(2, "b", sized(0, 3, 4, 5)...), put(3, "c"), put(4, "d", sized(8, 1)...)}
	n := of(t, l...)
	for k := range 4 {
		got, want := n.List(""), l.files()
		spoil(got[k].Pieces)
		if !alike(slices.Delete(got, k, k+1), slices.Delete(want, k, k+1)) {
			t.Errorf("the Pieces of file %d are another's", k)
		}
	}
}

// Rule 5: two namespaces of one history answer alike, again and again.
func TestAnswersAreTheSame(t *testing.T) {
	l := crowd(300)
	n, m := of(t, l...), of(t, l...)
	files, digests := n.List(""), n.Digests()
	for range 20 {
		if !alike(m.List(""), files) || !slices.Equal(m.Digests(), digests) || !alike(n.Copy().List(""), files) {
			t.Fatal("another order")
		}
	}
}
