package names_test

import (
	"bytes"
	"crypto/sha256"
	"slices"
	"testing"

	"saltern/api"
	"saltern/names"
)

// shop is chunks by their digests.
type shop map[api.Digest][]byte

// pieces cuts bytes into chunks, of which some are alike, and keeps them.
func (s shop) pieces(c *chance, b []byte, most int) []api.Piece {
	var l []api.Piece
	for len(b) > 0 {
		n := min(1+c.below(most), len(b))
		d := api.Digest(sha256.Sum256(b[:n]))
		s[d] = bytes.Clone(b[:n])
		l = append(l, api.Piece{D: d, N: n})
		b = b[n:]
	}
	return l
}

// slice joins the parts that Seek tells.
func (s shop) slice(t *testing.T, n *names.Names, path string, from, size int) []byte {
	t.Helper()
	parts, e := n.Seek(path, from, size)
	if e != api.OK {
		t.Fatalf("Seek of %q, %d, %d: %d", path, from, size, e)
	}
	var b []byte
	for _, p := range parts {
		chunk := s[p.D]
		if p.N != len(chunk) || p.From < 0 || p.From >= p.To || p.To > p.N {
			t.Fatalf("Seek of %q, %d, %d: part %d to %d of %d", path, from, size, p.From, p.To, p.N)
		}
		b = append(b, chunk[p.From:p.To]...)
	}
	return b
}

// row is n bytes, many of which are alike.
func (c *chance) row(n int) []byte {
	b := make([]byte, n)
	for i := range b {
		b[i] = byte(c.below(3))
	}
	return b
}

// P15.4: each slice of some files.
func TestTheSlice(t *testing.T) {
	c := chance(15)
	for size := range 40 {
		b, s := c.row(size), shop{}
		n := of(t, put(1, "f", s.pieces(&c, b, 1+size/3)...))
		for from := range size + 1 {
			for k := range size - from + 1 {
				if got := s.slice(t, n, "f", from, k); !bytes.Equal(got, b[from:from+k]) {
					t.Errorf("%d, %d of %d: %v, not %v", from, k, size, got, b[from:from+k])
				}
			}
		}
	}
}

// P15.4: slices of the greatest file.
func TestTheSliceOfTheGreatestFile(t *testing.T) {
	c, s := chance(16), shop{}
	b := c.row(1 << 20)
	n := of(t, put(1, "f", s.pieces(&c, b, 4096)...))
	for range 300 {
		from := c.below(len(b) + 1)
		size := c.below(len(b) - from + 1)
		if !bytes.Equal(s.slice(t, n, "f", from, size), b[from:from+size]) {
			t.Errorf("%d, %d", from, size)
		}
	}
	if !bytes.Equal(s.slice(t, n, "f", 0, len(b)), b) {
		t.Error("all of it")
	}
}

// fate is a record of one of a few paths, sometimes one that may not be.
func (c *chance) fate(paths []string) api.Record {
	path, seq := paths[c.below(len(paths))], 1+c.below(1<<c.below(31))
	switch c.below(9) {
	case 0:
		return lead(seq, c.below(2))
	case 1, 2, 3:
		return del(seq, path)
	case 4:
		l := wrong(path)
		return l[c.below(len(l))]
	}
	var l []api.Piece
	for range c.below(5) {
		l = append(l, api.Piece{D: digest(c.below(9)), N: 1 + c.below(9)})
	}
	return put(seq, path, l...)
}

// P15.1 to P15.6: histories, record by record, against the chapter's words.
func TestHistories(t *testing.T) {
	paths := []string{"a", "a/", "a/b", "a/bc", "b", "B", "~", "!"}
	for seed := range 30 {
		c := chance(seed)
		n, l := names.New(), done{}
		for range 60 {
			r := c.fate(paths)
			want := l.may(r)
			if want != api.OK {
				refuses(t, n, r, want)
			} else {
				applies(t, n, r)
				l = append(l, r)
			}
			tells(t, "a history", n, l, append(paths, "")...)
			p := paths[c.below(len(paths))]
			f, _ := l.file(p)
			seeks(t, n, l, p, c.below(f.Size+3)-1, c.below(f.Size+3)-1)
		}
		tells(t, "Of the same", of(t, l...), l, paths...)
		tells(t, "a copy", n.Copy(), l, paths...)
	}
}

// P15.5: what Stat tells is what the path's last record put, whatever came ahead of it.
func TestTheLastWord(t *testing.T) {
	c := chance(17)
	for range 200 {
		n := names.New()
		var last api.Record // of the path f: kind 0 where there is none
		for range c.below(12) {
			r := c.fate([]string{"f", "g"})
			if n.Apply(r) == api.OK && r.Path == "f" {
				last = r
			}
		}
		f, e := n.Stat("f")
		if last.Kind != api.RPut {
			if e != api.ErrNoFile {
				t.Errorf("no file: %v, %d", f, e)
			}
			continue
		}
		if e != api.OK || f.Path != "f" || f.Seq != last.Seq || !slices.Equal(f.Pieces, last.Pieces) {
			t.Errorf("%v, %d, not %s", f, e, short(last))
		}
	}
}

// P15.6: a record changes no file but that of its own path.
func TestNothingElse(t *testing.T) {
	c := chance(18)
	paths := []string{"a", "aa", "aaa", "a/", "A", "b"}
	for range 300 {
		n := names.New()
		for range c.below(20) {
			n.Apply(c.fate(paths))
		}
		r := c.fate(paths)
		was := n.List("")
		n.Apply(r)
		own := func(f api.File) bool { return f.Path == r.Path && r.Kind != api.RLead }
		if !alike(slices.DeleteFunc(n.List(""), own), slices.DeleteFunc(was, own)) {
			t.Errorf("%s changed another file", short(r))
		}
	}
}
