package store_test

import (
	"bytes"
	"crypto/sha256"
	"slices"
	"testing"

	"saltern/api"
	"saltern/disk"
)

// P12.5, P12.6, P12.8

// losses loses power behind each single write and sync of a call, and behind all of them, in all ways; check is told whether the call had ended, and what each loss left.
func losses(t *testing.T, make task, check func(done bool, d *disk.Disk)) {
	t.Helper()
	steps := traced(t, make)
	for n := range len(steps) + 1 {
		d, call := make()
		fused(t, d, n)
		done := call() == api.OK
		lasts := held(t, lost(t, d, way{torn: -1}))
		open := openOf(steps[:n])
		seen := map[[32]byte]int{}
		for _, w := range ways(len(open)) {
			d := lost(t, writing(t, lasts, open), w)
			// Most ways leave the same blocks as others.
			sum := sha256.Sum256(slices.Concat(held(t, d)...))
			if seen[sum]++; seen[sum] > 1 {
				continue
			}
			check(done, d)
			if t.Failed() {
				t.Fatalf("a fuse of %d, %v", n, w)
			}
		}
	}
}

// openOf are those of some steps that are open behind them.
func openOf(steps []step) []step {
	var open []step
	for _, s := range steps {
		if s.block == aSync {
			open = nil
		} else if s.block != unseen {
			open = append(open, s)
		}
	}
	return open
}

// writing is a device that holds an image, and on which some writes are open.
func writing(t *testing.T, m image, open []step) *disk.Disk {
	t.Helper()
	d := m.device(t)
	for _, s := range open {
		if e := d.Write(s.block, []byte(s.bytes)); e != api.OK {
			t.Fatalf("Write(%d): %d", s.block, e)
		}
	}
	return d
}

// after asks what stands behind a loss and Open: all of must, some of may, nothing else, all that is read, each other block of the store's erased, and no block outside changed.
func after(t *testing.T, d *disk.Disk, was image, x api.Extent, must, may [][]byte) {
	t.Helper()
	s := opened(t, d, x)
	want := was.with(x.At, make([]byte, 512*x.N))
	now := held(t, d)
	v := lookedAt(now, x)
	there := 0
	for k, b := range slices.Concat(must, may) {
		if k >= len(must) && !s.Has(digest(b)) {
			continue
		}
		got(t, "behind a loss", s, b)
		want = want.with(v.chunks[digest(b)].At, packed(t, b))
		there++
	}
	if len(s.List()) != there {
		t.Errorf("%d are there, not %d", len(s.List()), there)
	}
	if !alike(now, want) {
		t.Error("the blocks hold something else")
	}
	tells(t, "behind a loss", s, v.digests(), v.free())
}

func TestLossesWithinPut(t *testing.T) {
	m, chunks, _ := shelf(t)
	m = append(m, zeros(12)...)
	x := api.Extent{At: 1, N: 28}
	for _, b := range [][]byte{[]byte("a"), wild(1, 1), sly(2, 1), sly(5, 1), greatest(1), bytes.Repeat([]byte("SCHK"), 1024)} {
		losses(t, putting(t, m, x, b, nil), func(done bool, d *disk.Disk) {
			must, may := chunks, [][]byte{b}
			if done {
				must, may = append(slices.Clone(chunks), b), nil
			}
			after(t, d, m, x, must, may)
		})
	}
}

func TestLossesWithinPutOfWhatIsDamaged(t *testing.T) {
	m, chunks, places := shelf(t)
	m = append(m, zeros(6)...)
	x := api.Extent{At: 1, N: 23}
	for _, k := range []int{0, 2} {
		for _, rot := range [][2]int{{200, 1}, {0, 1}, {8, 1}, {41, 1}} {
			b, at := chunks[k], places[k].At
			spoil := func(d *disk.Disk) { rotted(t, d, at, rot[0], byte(rot[1])) }
			others := slices.Delete(slices.Clone(chunks), k, k+1)
			losses(t, putting(t, m, x, b, spoil), func(done bool, d *disk.Disk) {
				afterDamage(t, d, x, others, b, done)
			})
		}
	}
}

// afterDamage asks that all others are there and read, and nothing else but the one that was damaged; whole, if it was put; and that it can be put.
func afterDamage(t *testing.T, d *disk.Disk, x api.Extent, others [][]byte, b []byte, done bool) {
	t.Helper()
	s := opened(t, d, x)
	for _, o := range others {
		got(t, "behind a loss", s, o)
	}
	if done {
		got(t, "it was put", s, b)
		if len(s.List()) != len(others)+1 {
			t.Errorf("%d are there", len(s.List()))
		}
	}
	if len(s.List()) > len(others)+1 {
		t.Errorf("%d are there", len(s.List()))
	}
	put(t, s, b)
	got(t, "put", s, b)
}

func TestLossesWithinKeep(t *testing.T) {
	m, chunks, _ := shelf(t)
	x := api.Extent{At: 1, N: 17}
	for _, stay := range [][]int{{}, {0}, {2}, {1, 3}, {0, 1, 3, 4}, {0, 1, 2, 3}, {1, 2, 3, 4}, {0, 1, 2, 3, 4}} {
		var must, may [][]byte
		for k, b := range chunks {
			if slices.Contains(stay, k) {
				must = append(must, b)
			} else {
				may = append(may, b)
			}
		}
		losses(t, keeping(t, m, x, len(may), rising(must...)...), func(done bool, d *disk.Disk) {
			left := may
			if done {
				left = nil
			}
			after(t, d, m, x, must, left)
		})
	}
}

func TestLossesWithinOpen(t *testing.T) {
	m, chunks, _ := shelf(t)
	m = append(m, zeros(12)...)
	x := api.Extent{At: 1, N: 28}
	for what, m := range map[string]image{
		"nothing to erase":      m,
		"a claimed one":         m.with(18, claimed(packed(t, sly(4, 1)))),
		"claimed ones":          m.with(18, claimed(packed(t, sly(4, 1)))).with(22, claimed(packed(t, sly(2, 1)))).with(28, claimed(packed(t, []byte("a")))),
		"loose ones":            m.with(1, []byte("a")).with(3, append(make([]byte, 500), 1)).with(20, []byte("SCHK")),
		"beyond":                m.with(27, packed(t, wild(3, 1))),
		"claimed, beyond":       m.with(27, claimed(packed(t, wild(3, 1)))),
		"one that is twice":     m.with(20, packed(t, chunks[4])),
		"one that is thrice":    m.with(20, packed(t, chunks[4])).with(25, packed(t, chunks[4])),
		"of all kinds":          m.with(1, []byte("a")).with(18, packed(t, chunks[4])).with(22, []byte("b")).with(23, claimed(packed(t, sly(3, 1)))).with(28, packed(t, wild(2, 1))),
		"claimed and its chunk": m.with(20, claimed(packed(t, chunks[4]))),
	} {
		t.Run(what, func(t *testing.T) {
			make := func() (*disk.Disk, func() api.Errno) { return opening(t, m, x) }
			losses(t, make, func(done bool, d *disk.Disk) { after(t, d, m, x, chunks, nil) })
		})
	}
}

// Power is lost within a call, and again within the Open that follows.
func TestLossesWithinOpenBehindALoss(t *testing.T) {
	m, chunks, _ := shelf(t)
	m = append(m, zeros(6)...)
	x := api.Extent{At: 1, N: 22}
	b := sly(4, 1)
	must := [][]byte{chunks[1], chunks[3]}
	for _, c := range []struct {
		make      task
		must, may [][]byte
	}{
		{putting(t, m, x, b, nil), chunks, [][]byte{b}},
		{keeping(t, m, x, 3, rising(must...)...), must, [][]byte{chunks[0], chunks[2], chunks[4]}},
	} {
		for n := range traced(t, c.make) {
			for _, all := range []bool{false, true} {
				d, call := c.make()
				fused(t, d, n)
				call()
				keep := slices.Repeat([]bool{all}, d.Open())
				first := held(t, lost(t, d, way{keep, d.Open() - 1, 100}))
				again := func() (*disk.Disk, func() api.Errno) { return opening(t, first, x) }
				losses(t, again, func(done bool, d *disk.Disk) { after(t, d, m, x, c.must, c.may) })
			}
		}
	}
}

// Behind a call that ended nothing is open, so a loss takes nothing.
func TestALossBehindACall(t *testing.T) {
	d, s := fresh(t, 16)
	x := api.Extent{At: 0, N: 16}
	var chunks [][]byte
	for k := range 5 {
		b := sly(1+k, k)
		put(t, s, b)
		chunks = append(chunks, b)
		d = lost(t, d, way{nil, 0, 9})
		s = opened(t, d, x)
		tells(t, "behind Put", s, rising(chunks...), s.Free())
		got(t, "behind Put", s, b)
	}
	kept(t, s, 3, digest(chunks[1]), digest(chunks[4]))
	s = opened(t, lost(t, d, way{nil, 0, 9}), x)
	tells(t, "behind Keep", s, rising(chunks[1], chunks[4]), 9)
}

func TestAChunkThatIsPutAgainTakesNoBlock(t *testing.T) {
	c := chance(128)
	d, s := fresh(t, 40)
	x := api.Extent{At: 0, N: 40}
	for range 300 {
		b := wild(1+c.below(3), c.below(6))
		there, free := s.Has(digest(b)), s.Free()
		put(t, s, b)
		if there && s.Free() != free || !there && s.Free() != free-len(packed(t, b))/512 {
			t.Fatalf("there ahead: %t; %d are free behind %d", there, s.Free(), free)
		}
		if c.below(10) == 0 {
			d = lost(t, d, way{})
			s = opened(t, d, x)
		}
	}
	if s.Free() != 40-6*(1+2+3) {
		t.Errorf("%d are free", s.Free())
	}
}
