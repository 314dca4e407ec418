package archive_test

import (
	"fmt"
	"math"
	"slices"
	"testing"

	"saltern/api"
	"saltern/archive"
)

// P17.6

// grown is an archive of seven records, whose files change from record to record.
func grown(t *testing.T, c api.ArchConf, blocks int) (image, *archive.Archive) {
	t.Helper()
	d, a := led(t, blocks, c)
	puts(t, a, "a", text(1, 400))
	puts(t, a, "b", text(2, 400))
	puts(t, a, "a", text(3, 400))
	deletes(t, a, "b")
	ends(t, "Vow", a.Vow(4), api.OK)
	ends(t, "Lead", a.Lead(4, 0), api.OK)
	puts(t, a, "b", text(1, 400))
	return held(t, d), a
}

func TestCut(t *testing.T) {
	c := conf(20)
	m, whole := grown(t, c, 60)
	l := records(t, whole)
	for seq := range len(l) + 1 {
		d := m.device(t)
		a := opened(t, d, c)
		ends(t, "Cut", a.Cut(seq), api.OK)
		tellsRecords(t, a, l[:seq])
		files, e := a.List("")
		if !slices.EqualFunc(files, filesOf(l[:seq]), sameFile) || e != api.OK {
			t.Errorf("%d: %v, %d", seq, files, e)
		}
		for _, f := range files {
			want := map[int][]byte{2: text(1, 400), 3: text(2, 400), 4: text(3, 400), 7: text(1, 400)}[f.Seq]
			reads(t, a, f.Path, 0, 400, want)
		}
		wants(t, a)
		_, free := a.Free()
		if _, was := whole.Free(); free != was || a.Promise() != 4 || a.Broken() {
			t.Errorf("%d: %d, %t: %d free, of %d", seq, a.Promise(), a.Broken(), free, was)
		}
		fused(t, d, 0)
		ends(t, "Cut to the newest", a.Cut(seq), api.OK)
		if again := opened(t, d, c); state(t, again) != state(t, a) {
			t.Errorf("%d: opened anew:\n%s\nnot\n%s", seq, state(t, again), state(t, a))
		}
		fused(t, d, -1)
		// It goes on from there.
		for _, r := range l[seq:] {
			ends(t, "Take", a.Take(r), api.OK)
		}
		if state(t, a) != state(t, whole) {
			t.Errorf("%d: taken again:\n%s\nnot\n%s", seq, state(t, a), state(t, whole))
		}
	}
}

func TestCutBeside(t *testing.T) {
	m, a := grown(t, conf(20), 60)
	was := state(t, a)
	for _, seq := range []int{math.MinInt, -1, 8, 9, 1 << 30, math.MaxInt} {
		ends(t, "Cut", a.Cut(seq), api.ErrRange)
	}
	if state(t, a) != was {
		t.Errorf("%s\nnot\n%s", state(t, a), was)
	}
	empty := opened(t, diskOf(t, 60), conf(20))
	ends(t, "Cut of nothing", empty.Cut(0), api.OK)
	ends(t, "Cut of nothing", empty.Cut(1), api.ErrRange)
	ends(t, "Cut", opened(t, m.device(t), conf(20)).Cut(8), api.ErrRange)
}

// What is cut may be led anew, but not below the promise.
func TestLeadBehindACut(t *testing.T) {
	_, a := grown(t, conf(20), 60)
	ends(t, "Cut", a.Cut(0), api.OK)
	if _, e := a.Put("a", nil); e != api.ErrNobody {
		t.Errorf("Put: %d", e)
	}
	if _, e := a.Delete("a"); e != api.ErrNobody {
		t.Errorf("Delete: %d", e)
	}
	ends(t, "Lead", a.Lead(2, 1), api.ErrVow)
	ends(t, "Vow", a.Vow(3), api.ErrVow)
	ends(t, "Lead", a.Lead(4, 0), api.OK)
	puts(t, a, "z", text(1, 400))
	reads(t, a, "z", 0, 400, text(1, 400))
	tellsRecords(t, a, rowOf(t, append(records(t, a)[:1], records(t, a)[1])...))
}

// sweeps asks how many chunks are dropped.
func sweeps(t *testing.T, a *archive.Archive, want int) {
	t.Helper()
	if n, e := a.Sweep(); n != want || e != api.OK {
		t.Errorf("Sweep: %d, %d, not %d", n, e, want)
	}
}

func TestSweep(t *testing.T) {
	c := api.ArchConf{Log: 30, Roll: even(10)}
	d, a := led(t, 60, c)
	free := func(want int) {
		t.Helper()
		if _, n := a.Free(); n != 30-want {
			t.Errorf("%d chunks are there, not %d", 30-n, want)
		}
	}
	sweeps(t, a, 0) // there is nothing
	puts(t, a, "a", []byte("0123456789abcdefghijlast"))
	puts(t, a, "b", []byte("0123456789abcdefghij0123456789"))
	free(3)
	fused(t, d, 0)
	sweeps(t, a, 0) // nothing may be dropped
	fused(t, d, -1)
	deletes(t, a, "a")
	free(3)
	sweeps(t, a, 1)
	free(2)
	reads(t, a, "b", 0, 30, []byte("0123456789abcdefghij0123456789"))
	ends(t, "Give", gives(a, []byte("given")), api.OK)
	puts(t, a, "c", nil)
	free(3)
	sweeps(t, a, 1)
	free(2)
	puts(t, a, "b", []byte("abcdefghij"))
	sweeps(t, a, 1)
	reads(t, a, "b", 0, 10, []byte("abcdefghij"))
	was := state(t, a)
	sweeps(t, a, 0)
	if now := state(t, opened(t, d, c)); now != was || state(t, a) != was {
		t.Errorf("%s\nnot\n%s", now, was)
	}
	deletes(t, a, "b")
	sweeps(t, a, 1) // all
	free(0)
	for i := range 12 {
		puts(t, a, "x", fmt.Appendf(nil, "file %d", i))
	}
	free(12)
	sweeps(t, a, 11)
	reads(t, a, "x", 0, 7, []byte("file 11"))
}

// A chunk that no file had any more, and that a Cut brings back, is wanted then.
func TestSweepAndCut(t *testing.T) {
	_, a := led(t, 60, conf(20))
	b := text(1, 600)
	puts(t, a, "a", b)
	deletes(t, a, "a")
	if n, e := a.Sweep(); n == 0 || e != api.OK {
		t.Errorf("Sweep: %d, %d", n, e)
	}
	ends(t, "Cut", a.Cut(2), api.OK)
	misses(t, a, "a", 0, 600, api.ErrMissing)
	f, e := a.Stat("a")
	ends(t, "Stat", e, api.OK)
	wants(t, a, digestsOf([]api.File{f})...)
	for _, chunk := range wordedChunks(conf(20).Roll, b) {
		ends(t, "Give", gives(a, chunk), api.OK)
	}
	reads(t, a, "a", 0, 600, b)
	wants(t, a)
	sweeps(t, a, 0)
	// And one that a Cut takes the file of is dropped.
	ends(t, "Cut", a.Cut(1), api.OK)
	sweeps(t, a, len(f.Pieces)-alikePieces(f))
}

// alikePieces is how many pieces of a file have the digest of one ahead.
func alikePieces(f api.File) int {
	return len(f.Pieces) - len(digestsOf([]api.File{f}))
}

// A damaged chunk is kept as long as a file has it, and dropped behind.
func TestSweepOfWhatIsDamaged(t *testing.T) {
	d, a := led(t, 60, api.ArchConf{Log: 20, Roll: even(10)})
	puts(t, a, "a", []byte("0123456789abcdefghij"))
	rots(t, d, 20, 21)
	sweeps(t, a, 0)
	reads(t, a, "a", 10, 10, []byte("abcdefghij"))
	misses(t, a, "a", 9, 2, api.ErrMissing)
	puts(t, a, "a", []byte("abcdefghij"))
	sweeps(t, a, 1) // the damaged one
	deletes(t, a, "a")
	sweeps(t, a, 1)
}
