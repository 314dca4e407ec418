package roll_test

import (
	"bytes"
	"slices"
	"testing"

	"saltern/api"
	"saltern/roll"
)

// P8.3

func TestNewHasNothing(t *testing.T) {
	for _, c := range confs() {
		k := made(t, c)
		if k.Left() != 0 {
			t.Errorf("%v: %d are left", c, k.Left())
		}
		if b := closed(t, k); len(b) != 0 {
			t.Errorf("%v: Close: %x", c, b)
		}
	}
}

func TestCutterStepByStep(t *testing.T) {
	k := made(t, conf(2, 3, 0))
	for i, c := range []struct {
		b    string
		want []string
		left int
	}{
		{"", nil, 0},
		{"a", nil, 1},
		{"", nil, 1},
		{"b", []string{"ab"}, 0},
		{"cdefghi", []string{"cd", "ef", "gh"}, 1},
		{"jk", []string{"ij"}, 1},
		{"l", []string{"kl"}, 0},
		{"mn", []string{"mn"}, 0},
		{"o", nil, 1},
	} {
		l := write(t, k, []byte(c.b))
		if !slices.EqualFunc(l, c.want, func(b []byte, s string) bool { return string(b) == s }) || k.Left() != c.left {
			t.Errorf("%d: %q, %d are left", i, l, k.Left())
		}
	}
	if b := closed(t, k); string(b) != "o" {
		t.Errorf("Close: %q", b)
	}
}

func TestAWriteThatEndsOneAndBeginsAnother(t *testing.T) {
	k := made(t, conf(1, 4096, 20))
	write(t, k, []byte{2, 43})
	l := write(t, k, []byte{240, 8, 219, 5, 2})
	if !alike(l, [][]byte{{2, 43, 240}, {8, 219, 5}}) || k.Left() != 1 {
		t.Errorf("%v, %d are left", l, k.Left())
	}
	// The hash of what is left goes on with it.
	if l := write(t, k, []byte{43, 240}); !alike(l, [][]byte{{2, 43, 240}}) || k.Left() != 0 {
		t.Errorf("%v, %d are left", l, k.Left())
	}
}

func TestCloseAndAgain(t *testing.T) {
	c := chance(5)
	first, second := c.row(3001, 256), c.row(2503, 256)
	for _, s := range confs() {
		k := made(t, s)
		for _, b := range [][]byte{first, second, nil, first[:1], second[:700]} {
			want, _ := wordedChunks(s, b)
			if l := inPieces(t, k, b, func() int { return 400 }); !alike(l, want) {
				t.Errorf("%v, %d bytes: %v, not %v", s, len(b), sizes(l), sizes(want))
			}
			if b := closed(t, k); len(b) != 0 {
				t.Errorf("%v: closed twice: %x", s, b)
			}
		}
	}
}

func TestCloseForgetsTheHash(t *testing.T) {
	k := made(t, conf(1, 4096, 20))
	write(t, k, []byte{77, 78})
	if b := closed(t, k); !bytes.Equal(b, []byte{77, 78}) {
		t.Errorf("%v", b)
	}
	if l := write(t, k, []byte{2, 43, 240}); !alike(l, [][]byte{{2, 43, 240}}) {
		t.Errorf("%v", l)
	}
}

func TestWriteTellsTheChunksThatEnd(t *testing.T) {
	for _, s := range confs() {
		for _, b := range rows() {
			k := made(t, s)
			want, ended := wordedChunks(s, b)
			l := write(t, k, b)
			if !alike(l, want[:ended]) {
				t.Errorf("%v, %d bytes: %v", s, len(b), sizes(l))
			}
			last := slices.Concat(want[ended:]...)
			if n := k.Left(); n != len(last) {
				t.Errorf("%v, %d bytes: %d are left, not %d", s, len(b), n, len(last))
			}
			if b := closed(t, k); !bytes.Equal(b, last) {
				t.Errorf("%v: Close: %d bytes, not %d", s, len(b), len(last))
			}
		}
	}
}

func TestWriteOfMoreThanAFile(t *testing.T) {
	k := made(t, conf(4096, 4096, 0))
	l := write(t, k, make([]byte, 1<<21+5))
	if len(l) != 512 || k.Left() != 5 {
		t.Errorf("%d chunks, %d are left", len(l), k.Left())
	}
}

func TestNobodysCutter(t *testing.T) {
	var none *roll.Cutter
	for _, k := range []*roll.Cutter{none, {}, new(roll.Cutter)} {
		for _, b := range [][]byte{nil, []byte("abc"), make([]byte, 1<<20+1)} {
			if l, e := k.Write(b); len(l) != 0 || e != api.ErrNil {
				t.Errorf("Write: %v, %d", l, e)
			}
		}
		if b, e := k.Close(); len(b) != 0 || e != api.ErrNil {
			t.Errorf("Close: %v, %d", b, e)
		}
		if n := k.Left(); n != 0 {
			t.Errorf("Left: %d", n)
		}
	}
}

// P8.4

func TestPiecesOfAllKinds(t *testing.T) {
	c := chance(6)
	for _, s := range confs() {
		for _, b := range rows() {
			want, _ := wordedChunks(s, b)
			told, _ := roll.Cuts(s, b)
			for i, next := range []func() int{
				func() int { return 1 },
				func() int { return c.below(2) }, // none, too
				func() int { return c.below(20) },
				func() int { return 7 },
				func() int { return c.below(9000) },
				func() int { return len(b) },
			} {
				l := inPieces(t, made(t, s), b, next)
				if !alike(l, want) || !slices.Equal(sizes(l), told) {
					t.Errorf("%v, %d bytes, way %d: %.60v, not %.60v", s, len(b), i, sizes(l), told)
				}
			}
		}
	}
}

func TestPiecesCutAtEachPlace(t *testing.T) {
	c := chance(7)
	b := c.row(300, 256)
	for _, s := range []api.RollConf{conf(1, 40, 3), conf(8, 32, 4), conf(16, 16, 0)} {
		want, _ := wordedChunks(s, b)
		for n := range len(b) + 1 {
			sides := []int{n, len(b) - n}
			l := inPieces(t, made(t, s), b, func() int {
				side := sides[0]
				sides = sides[1:]
				return side
			})
			if !alike(l, want) {
				t.Errorf("%v at %d: %v", s, n, sizes(l))
			}
		}
	}
}

// P8.5

func TestTheChunksAreTheBytes(t *testing.T) {
	c := chance(9)
	for _, s := range confs() {
		for _, b := range rows() {
			l := inPieces(t, made(t, s), b, func() int { return 1 + c.below(5000) })
			if !bytes.Equal(slices.Concat(l...), b) {
				t.Errorf("%v, %d bytes: other ones", s, len(b))
			}
			for i, x := range l {
				if len(x) > s.Most || len(x) < s.Least && i+1 < len(l) || len(x) == 0 {
					t.Errorf("%v: chunk %d of %d has %d bytes", s, i, len(l), len(x))
				}
			}
			sum := 0
			told, _ := roll.Cuts(s, b)
			for _, n := range told {
				sum += n
			}
			if sum != len(b) {
				t.Errorf("%v: %d bytes, not %d", s, sum, len(b))
			}
		}
	}
}

// P8.6

// begins are the places where chunks begin, and the end.
func begins(t *testing.T, s api.RollConf, b []byte) []int {
	t.Helper()
	told, e := roll.Cuts(s, b)
	if e != api.OK {
		t.Fatal(e)
	}
	l := []int{0}
	for _, n := range told {
		l = append(l, l[len(l)-1]+n)
	}
	return l
}

func TestAlikeBehindOtherHeads(t *testing.T) {
	c := chance(10)
	s := conf(8, 256, 5)
	tail := c.row(6000, 256)
	for _, heads := range [][2]int{{0, 5}, {1, 0}, {100, 7}, {257, 4000}} {
		a, b := c.row(heads[0], 256), c.row(heads[1], 256)
		fromA := begins(t, s, append(a, tail...))
		fromB := begins(t, s, append(b, tail...))
		inTail := map[int]int{}
		for i, at := range fromA {
			inTail[at-len(a)] = i
		}
		met := slices.IndexFunc(fromB, func(at int) bool {
			_, ok := inTail[at-len(b)]
			return at >= len(b) && ok
		})
		if met < 0 || fromB[met]-len(b) > 3000 {
			t.Errorf("%v: no chunks begin at one place soon", heads)
			continue
		}
		restA, restB := fromA[inTail[fromB[met]-len(b)]:], fromB[met:]
		if !slices.EqualFunc(restA, restB, func(x, y int) bool { return x-len(a) == y-len(b) }) {
			t.Errorf("%v: other chunks behind one place", heads)
		}
	}
}

func TestAlikeAheadOfOtherTails(t *testing.T) {
	c := chance(11)
	for _, s := range confs() {
		head := c.row(5000, 256)
		a := begins(t, s, append(slices.Clone(head), c.row(3000, 256)...))
		b := begins(t, s, append(slices.Clone(head), c.row(2000, 3)...))
		for i := 0; i < len(a) && i < len(b) && min(a[i], b[i]) <= len(head); i++ {
			if a[i] != b[i] {
				t.Errorf("%v: chunk %d begins at %d, and at %d", s, i, a[i], b[i])
			}
		}
	}
}

func TestAlikeWhereABeginningIsACutters(t *testing.T) {
	c := chance(12)
	s := conf(8, 64, 4)
	b := c.row(4000, 256)
	all, _ := wordedChunks(s, b)
	at := 0
	for i, x := range all {
		l := inPieces(t, made(t, s), b[at:], func() int { return 100 })
		if !alike(l, all[i:]) {
			t.Errorf("from %d on: %v, not %v", at, sizes(l), sizes(all[i:]))
		}
		at += len(x)
	}
}

// Rules

func TestArgumentsStayAsTheyWere(t *testing.T) {
	c := chance(13)
	b := c.row(3000, 256)
	kept := slices.Clone(b)
	s := conf(8, 256, 5)
	k := made(t, s)
	roll.Hash(7, b)
	roll.Next(s, b)
	roll.Cuts(s, b)
	write(t, k, b[:1000])
	for _, x := range write(t, k, b[1000:1500]) {
		_ = append(x, 1, 2, 3) // what is told has its bound
		clear(x)
	}
	clear(closed(t, k))
	if !bytes.Equal(b, kept) {
		t.Error("the bytes are others")
	}
}

func TestNothingOfAnArgumentIsKept(t *testing.T) {
	s := conf(8, 256, 5)
	c := chance(14)
	b := c.row(3000, 256)
	want, ended := wordedChunks(s, slices.Clone(b))
	k := made(t, s)
	var l [][]byte
	for at := 0; at < len(b); at += 100 {
		piece := slices.Clone(b[at : at+100])
		l = append(l, write(t, k, piece)...)
		clear(piece)
	}
	if !alike(l, want[:ended]) {
		t.Errorf("%v", sizes(l))
	}
	if last := closed(t, k); !bytes.Equal(last, slices.Concat(want[ended:]...)) {
		t.Error("what is left is other bytes")
	}
}

func TestAnswersAreNew(t *testing.T) {
	s := conf(4, 16, 2)
	c := chance(15)
	b := c.row(500, 256)
	want, ended := wordedChunks(s, b)
	k := made(t, s)
	l := write(t, k, b)
	for i := range l {
		if !bytes.Equal(l[i], want[i]) {
			t.Fatalf("chunk %d was changed by one ahead of it", i)
		}
		clear(append(l[i], l[i]...))
		clear(l[i][:cap(l[i])])
	}
	last := closed(t, k)
	if !bytes.Equal(last, slices.Concat(want[ended:]...)) {
		t.Error("what is left was changed by an answer")
	}
	clear(last[:cap(last)])
	if l := write(t, k, b); !alike(l, want[:ended]) {
		t.Error("a cutter was changed by an answer")
	}
	one, _ := roll.Cuts(s, b)
	clear(one)
	if two, _ := roll.Cuts(s, b); !slices.Equal(two, sizes(want)) {
		t.Error("Cuts was changed by an answer")
	}
}

func TestCuttersAreOnTheirOwn(t *testing.T) {
	s := conf(8, 64, 4)
	c := chance(16)
	a, b := c.row(2000, 256), c.row(2000, 256)
	wantA, endedA := wordedChunks(s, a)
	wantB, endedB := wordedChunks(s, b)
	k, m := made(t, s), made(t, s)
	var gotA, gotB [][]byte
	for at := 0; at < 2000; at += 10 {
		gotA = append(gotA, write(t, k, a[at:at+10])...)
		gotB = append(gotB, write(t, m, b[at:at+10])...)
	}
	if !alike(gotA, wantA[:endedA]) || !alike(gotB, wantB[:endedB]) {
		t.Error("one cutter's bytes are in another's chunks")
	}
}

func TestACopyGoesOnAlone(t *testing.T) {
	k := made(t, conf(4, 4, 0))
	write(t, k, []byte("ab"))
	m := *k
	one, two := write(t, k, []byte("cd")), write(t, &m, []byte("xy"))
	if !alike(one, [][]byte{[]byte("abcd")}) || !alike(two, [][]byte{[]byte("abxy")}) {
		t.Errorf("%q, %q", one, two)
	}
}

func TestNilAndEmptyAreTheSame(t *testing.T) {
	s := conf(2, 8, 3)
	for _, b := range [][]byte{nil, {}} {
		if n, ends, e := roll.Next(s, b); n != 0 || ends || e != api.OK {
			t.Errorf("Next: %d, %v, %d", n, ends, e)
		}
		if l, e := roll.Cuts(s, b); len(l) != 0 || e != api.OK {
			t.Errorf("Cuts: %v, %d", l, e)
		}
		if l := write(t, made(t, s), b); len(l) != 0 {
			t.Errorf("Write: %v", l)
		}
		if h := roll.Hash(9, b); h != 9 {
			t.Errorf("Hash: %d", h)
		}
	}
}
