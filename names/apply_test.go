package names_test

import (
	"slices"
	"strings"
	"testing"

	"saltern/api"
	"saltern/names"
)

// P15.1: of no record there is no file.
func TestOfNoRecord(t *testing.T) {
	for what, n := range map[string]*names.Names{"New": names.New(), "Of": of(t), "Copy": names.New().Copy()} {
		tells(t, what, n, nil, "", "a", " ")
		refuses(t, n, del(1, "a"), api.ErrNoFile)
		applies(t, n, lead(1, 1))
		tells(t, what, n, done{lead(1, 1)}, "a")
		applies(t, n, put(1, "a"))
		tells(t, what, n, done{put(1, "a")}, "a")
	}
	a, b := names.New(), names.New()
	applies(t, a, put(1, "a"))
	tells(t, "another New", b, nil, "a")
}

// P15.1: each kind, with none, some and many pieces, and a file of none.
func TestApply(t *testing.T) {
	l := done{
		lead(1, 0),
		put(2, "b", sized(0, 3, 5, 2)...),
		put(3, "a"),
		put(4, strings.Repeat("!", 255), sized(7, 1)...),
		put(5, "~", sized(9, slices.Repeat([]int{4096}, 256)...)...),
		put(6, "}", sized(300, slices.Repeat([]int{256}, 4096)...)...),
		lead(7, 1),
		del(8, "b"),
		del(9, "~"),
	}
	n := names.New()
	for i, r := range l {
		applies(t, n, r)
		tells(t, "behind each", n, l[:i+1], "a", "b", "~", "}", "!", "none")
	}
}

// P15.1: a path has just the file that was put last.
func TestApplyOfAPathAgain(t *testing.T) {
	l := done{
		put(1, "a", sized(0, 3, 5)...),
		put(2, "a", sized(8, 2)...), // fewer pieces, others
		put(3, "a"),
		put(4, "a", sized(0, 3, 5)...),
		del(5, "a"),
		put(6, "a", sized(0, 3, 5)...),
		del(7, "a"),
	}
	n := names.New()
	for i, r := range l {
		applies(t, n, r)
		tells(t, "again", n, l[:i+1], "a")
	}
	refuses(t, n, del(8, "a"), api.ErrNoFile)
	applies(t, n, put(8, "a", sized(1, 1)...))
	tells(t, "at last", n, done{put(8, "a", sized(1, 1)...)}, "a")
}

// P15.1: records need not follow one another, nor have numbers that rise.
func TestApplyOfRecordsThatDoNotFollow(t *testing.T) {
	l := done{
		put(1<<30, "a", sized(0, 3)...),
		changed(put(1, "a", sized(4, 1)...), func(r *api.Record) { r.Epoch = 1 << 30 }),
		changed(del(1, "a"), func(r *api.Record) { r.Prev = api.Digest{31: 255} }),
		changed(put(1, "a"), func(r *api.Record) { r.Epoch = 1 }),
	}
	tells(t, "Of", of(t, l...), l, "a")
}

// P15.1: one that may not be is told first, whatever else holds.
func TestApplyOfRecordsThatMayNotBe(t *testing.T) {
	empty, one, all := names.New(), of(t, put(1, "a", sized(0, 2)...)), of(t, crowd(1024)...)
	for _, path := range []string{"a", pathOf(0), "none"} {
		for _, r := range wrong(path) {
			refuses(t, empty, r, api.ErrRecord)
			refuses(t, one, r, api.ErrRecord)
			refuses(t, all, r, api.ErrRecord)
		}
	}
}

// P15.1: RDelete of a path without a file, also of one that begins as another's path does, or that begins another's.
func TestDeleteOfNoFile(t *testing.T) {
	n := of(t, put(1, "dir/a", sized(0, 2)...), put(2, "dir/a/b"))
	for _, p := range []string{"d", "dir", "dir/", "dir/A", "dir/a/", "dir/a/b/", "dir/b", "a", "*"} {
		refuses(t, n, del(3, p), api.ErrNoFile)
	}
	applies(t, n, del(3, "dir/a"))
	refuses(t, n, del(4, "dir/a"), api.ErrNoFile)
	tells(t, "one is left", n, done{put(2, "dir/a/b")}, "dir/a", "dir/a/b")
}

// P15.1: the 1024th file and one more, one put again where there are 1024, one in the place of one that was deleted.
func TestTheMostFiles(t *testing.T) {
	l := done(crowd(1023))
	n := of(t, l...)
	step := func(what string, r api.Record) {
		t.Helper()
		applies(t, n, r)
		l = append(l, r)
		if got, want := n.List(""), l.files(); !alike(got, want) {
			t.Errorf("%s: %s, not %s", what, texts(got), texts(want))
		}
	}
	last := put(1024, pathOf(1023), sized(2, 9)...)
	step("the 1024th", last)
	refuses(t, n, put(1025, pathOf(1024)), api.ErrMany)
	refuses(t, n, put(1025, "!", sized(0, 1)...), api.ErrMany)
	refuses(t, n, del(1025, pathOf(1024)), api.ErrNoFile)
	step("the first put again", put(1025, pathOf(0), sized(3, 8, 8)...))
	step("one in the midst put again", put(1026, pathOf(512)))
	step("the last put again", put(1027, pathOf(1023)))
	step("RLead", lead(1028, 0))
	refuses(t, n, put(1029, pathOf(1024)), api.ErrMany)
	step("one deleted", del(1029, pathOf(7)))
	step("another one put", put(1030, pathOf(1024)))
	refuses(t, n, put(1031, pathOf(7)), api.ErrMany)
	step("put again", put(1031, pathOf(1024)))
	refuses(t, n.Copy(), put(1032, pathOf(7)), api.ErrMany)
}

// P15.1: a file that is put again, or deleted and put again, counts once.
func TestTheMostFilesOfMoreRecords(t *testing.T) {
	l := done{}
	for k := range 100 {
		l = append(l, put(1, "a", sized(k, 1)...), del(1, "a"), put(1, "b", sized(k, 1)...))
	}
	l = append(l, crowd(1023)...)
	n := of(t, l...)
	tells(t, "1024 files", n, l, "a", "b")
	refuses(t, n, put(1, "a"), api.ErrMany)
}

// P15.1: how many of the records that Of was handed in were done, and no namespace, where one is at fault.
func TestOfUpToTheFirstFault(t *testing.T) {
	l := []api.Record{
		lead(1, 0), put(2, "a", sized(0, 1)...), put(3, "b"), del(4, "a"), lead(5, 1), put(6, "a"), put(7, "b", sized(4, 4)...), del(8, "b"), put(9, "c"),
	}
	tells(t, "without a fault", of(t, l...), l, "a", "b", "c")
	for k := range l {
		tells(t, "a beginning", of(t, l[:k]...), l[:k], "a", "b", "c")
		for _, f := range []struct {
			r    api.Record
			want api.Errno
		}{
			{changed(l[k], func(r *api.Record) { r.Seq = 0 }), api.ErrRecord},
			{api.Record{}, api.ErrRecord},
			{put(k+1, "a b"), api.ErrRecord},
			{del(k+1, "none"), api.ErrNoFile},
		} {
			m := slices.Clone(l)
			m[k] = f.r
			if n, i, e := names.Of(m...); n != nil || i != k || e != f.want {
				t.Errorf("%s at %d: %v, %d, %d, not %d", short(f.r), k, n, i, e, f.want)
			}
			// What is behind the first fault does not count.
			m[len(m)-1] = changed(m[len(m)-1], func(r *api.Record) { r.Epoch = 0 })
			if n, i, e := names.Of(m...); n != nil || i != k || k < len(l)-1 && e != f.want {
				t.Errorf("%s at %d: %v, %d, %d, not %d", short(f.r), k, n, i, e, f.want)
			}
		}
	}
}

// P15.1: the 1025th file ends Of, too.
func TestOfTheMostFiles(t *testing.T) {
	l := crowd(1025)
	tells(t, "1024", of(t, l[:1024]...), l[:1024])
	if n, k, e := names.Of(l...); n != nil || k != 1024 || e != api.ErrMany {
		t.Errorf("%v, %d, %d", n, k, e)
	}
	l = slices.Insert(l, 1024, del(1, pathOf(3)))
	tells(t, "one deleted ahead", of(t, l...), l)
}

// A namespace that nobody made answers ErrNil, ahead of all else, or zero values.
func TestNamespacesThatNobodyMade(t *testing.T) {
	for what, n := range map[string]*names.Names{"nil": nil, "zero": {}} {
		for _, r := range []api.Record{lead(1, 0), put(1, "a"), del(1, "a"), {}, put(0, "")} {
			if e := n.May(r); e != api.ErrNil {
				t.Errorf("%s: May: %d", what, e)
			}
			if e := n.Apply(r); e != api.ErrNil {
				t.Errorf("%s: Apply: %d", what, e)
			}
		}
		for _, p := range []string{"", "a", " "} {
			if f, e := n.Stat(p); e != api.ErrNil || !alike([]api.File{f}, []api.File{{}}) {
				t.Errorf("%s: Stat: %v, %d", what, f, e)
			}
			if l, e := n.Seek(p, -1, 0); e != api.ErrNil || l != nil {
				t.Errorf("%s: Seek: %v, %d", what, l, e)
			}
			if l, e := n.Seek(p, 0, 0); e != api.ErrNil || l != nil {
				t.Errorf("%s: Seek: %v, %d", what, l, e)
			}
			if l := n.List(p); l != nil {
				t.Errorf("%s: List: %v", what, l)
			}
		}
		if l := n.Digests(); l != nil {
			t.Errorf("%s: Digests: %v", what, l)
		}
		if c := n.Copy(); c != nil {
			t.Errorf("%s: Copy: %v", what, c)
		}
	}
}
