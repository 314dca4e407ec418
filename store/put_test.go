package store_test

import (
	"bytes"
	"testing"

	"saltern/api"
	"saltern/disk"
	"saltern/store"
)

// P12.2

// putting is a task: Put on an image that Open does not change, behind what spoils it.
func putting(t *testing.T, m image, x api.Extent, b []byte, spoil func(d *disk.Disk)) task {
	t.Helper()
	return func() (*disk.Disk, func() api.Errno) {
		d := m.device(t)
		s := opened(t, d, x)
		if spoil != nil {
			spoil(d)
		}
		l, free := s.List(), s.Free()
		return d, func() api.Errno {
			told, e := s.Put(b)
			if e != api.OK {
				tells(t, "behind a device's error", s, l, free)
			}
			if e == api.OK && told != digest(b) || e != api.OK && told != (api.Digest{}) {
				t.Errorf("Put: %x beside %d", told, e)
			}
			return e
		}
	}
}

func TestPutOfAllSizes(t *testing.T) {
	c := chance(1)
	for _, n := range []int{1, 2, 100, 464, 465, 466, 976, 977, 978, 4095, 4096} {
		for _, b := range [][]byte{c.row(n), bytes.Repeat([]byte("a"), n), make([]byte, n)} {
			d, s := fresh(t, 12)
			put(t, s, b)
			p := packed(t, b)
			if !alike(held(t, d), zeros(12).with(0, p)) || d.Open() != 0 {
				t.Errorf("%d: the blocks hold something else", n)
			}
			tells(t, "one chunk", s, rising(b), 12-len(p)/512)
			got(t, "one chunk", s, b)
			scrubbed(t, "one chunk", s, nil)
			anew := opened(t, d, api.Extent{At: 0, N: 12})
			tells(t, "anew", anew, rising(b), 12-len(p)/512)
			got(t, "anew", anew, b)
		}
	}
}

func TestPutOfWhatIsNoChunk(t *testing.T) {
	d, s := fresh(t, 4)
	b := wild(2, 1)
	put(t, s, b)
	full, fullStore := fresh(t, 4)
	put(t, fullStore, wild(4, 1))
	down, downStore := fresh(t, 4)
	lost(t, down, way{})
	fused(t, d, 0)
	fused(t, full, 0)
	for what, s := range map[string]*store.Store{"dark": s, "full": fullStore, "down": downStore} {
		l, free := s.List(), s.Free()
		for _, b := range [][]byte{nil, {}, make([]byte, 4097), make([]byte, 4098), make([]byte, 65536), make([]byte, 65537), make([]byte, 1<<20)} {
			putFails(t, what, s, b, api.ErrChunk)
		}
		tells(t, what, s, l, free)
	}
}

func TestThePutsStepsInOrder(t *testing.T) {
	x := api.Extent{At: 1, N: 14}
	m := zeros(16).with(1, packed(t, wild(2, 7))).with(4, packed(t, wild(1, 8)))
	for _, c := range []struct {
		b  []byte
		at int
	}{
		{[]byte("a"), 3},
		{bytes.Repeat([]byte("a"), 4096), 3},
		{wild(1, 1), 3},
		{wild(2, 1), 5},
		{wild(3, 1), 5},
		{sly(8, 1), 5},
		{greatest(1), 5},
	} {
		does(t, "Put", m, putting(t, m, x, c.b, nil), laying(c.at, packed(t, c.b)))
	}
}

func TestTheFirstExtentThatFits(t *testing.T) {
	d, s := fresh(t, 20)
	var l []api.Digest
	for k, n := range []int{2, 1, 3, 1, 2, 1, 4, 1, 5} {
		l = append(l, put(t, s, wild(n, k)))
	}
	kept(t, s, 5, l[1], l[3], l[5], l[7]) // free: 0,2 3,3 7,2 10,4 15,5
	m := held(t, d)
	for k, c := range []struct{ n, at int }{{3, 3}, {3, 10}, {2, 0}, {1, 7}, {5, 15}, {1, 8}, {1, 13}} {
		b := wild(c.n, 100+k)
		put(t, s, b)
		m = m.with(c.at, packed(t, b))
		if !alike(held(t, d), m) {
			t.Fatalf("%d blocks do not lie at %d", c.n, c.at)
		}
	}
	tells(t, "full", s, s.List(), 0)
	putFails(t, "full", s, []byte("one more"), api.ErrFull)
}

func TestAChunkThatFillsTheFreeBlocksJust(t *testing.T) {
	for _, n := range []int{4, 5, 8} {
		d, s := fresh(t, n)
		more := wild(5, 9)
		if n >= 5 {
			more = greatest(9)
		}
		putFails(t, "a block more", s, more, api.ErrFull)
		if !alike(held(t, d), zeros(n)) || d.Open() != 0 {
			t.Errorf("%d: something is written", n)
		}
		tells(t, "empty", s, nil, n)
		b := wild(n, 1)
		put(t, s, b)
		tells(t, "full", s, rising(b), 0)
		got(t, "full", s, b)
		putFails(t, "full", s, []byte("a"), api.ErrFull)
		put(t, s, b)
	}
	x := api.Extent{At: 3, N: 7}
	d := zeros(12).device(t)
	s := opened(t, d, x)
	put(t, s, wild(3, 1))
	putFails(t, "a block more", s, wild(5, 2), api.ErrFull)
	put(t, s, wild(4, 2))
	tells(t, "full", s, rising(wild(3, 1), wild(4, 2)), 0)
	m := zeros(12).with(3, packed(t, wild(3, 1))).with(6, packed(t, wild(4, 2)))
	if !alike(held(t, d), m) {
		t.Error("the blocks hold something else")
	}
}

func TestFreeBlocksThatAreNotSideBySide(t *testing.T) {
	_, s := fresh(t, 9)
	var l []api.Digest
	for k := range 9 {
		l = append(l, put(t, s, wild(1, k)))
	}
	kept(t, s, 5, l[1], l[3], l[5], l[7])
	putFails(t, "5 free blocks, each alone", s, wild(2, 20), api.ErrFull)
	if s.Free() != 5 || s.Has(digest(wild(2, 20))) {
		t.Errorf("%d are free", s.Free())
	}
	kept(t, s, 1, l[1], l[3], l[5])
	put(t, s, wild(3, 20))
}

func TestFullIsToldAheadOfTheDevicesError(t *testing.T) {
	d, s := fresh(t, 4)
	put(t, s, wild(3, 1))
	fused(t, d, 0)
	putFails(t, "dark", s, wild(2, 2), api.ErrFull)
	putFails(t, "dark", s, wild(1, 2), api.ErrDark)
	lost(t, d, way{})
	putFails(t, "down", s, wild(2, 2), api.ErrFull)
	putFails(t, "down", s, wild(1, 2), api.ErrDown)
	putFails(t, "down, and there", s, wild(3, 1), api.ErrDown)
	tells(t, "down", s, rising(wild(3, 1)), 1)
}

func TestPutOfWhatIsThere(t *testing.T) {
	for _, b := range [][]byte{[]byte("a"), wild(1, 1), wild(3, 1), greatest(1)} {
		d, s := fresh(t, 12)
		put(t, s, []byte("ahead"))
		put(t, s, b)
		m := held(t, d)
		l, free := s.List(), s.Free()
		fused(t, d, 0)
		for range 3 {
			put(t, s, b)
		}
		tells(t, "again", s, l, free)
		if !alike(held(t, d), m) || d.Open() != 0 {
			t.Error("something is written")
		}
		again := opened(t, d, api.Extent{At: 0, N: 12})
		put(t, again, b)
		tells(t, "again, behind Open", again, l, free)
	}
}

func TestWhatIsThereByAnotherCode(t *testing.T) {
	b := bytes.Repeat([]byte("abcd"), 300)
	m := zeros(8).with(2, stored(b))
	if len(stored(b)) != 3*512 || len(packed(t, b)) != 512 {
		t.Fatal("the codes have other sizes")
	}
	d := m.device(t)
	s := opened(t, d, api.Extent{At: 0, N: 8})
	fused(t, d, 0)
	put(t, s, b)
	tells(t, "stored", s, rising(b), 5)
	got(t, "stored", s, b)
}

// spoils are bytes of a chunk's head, sum and code that rot.
func spoils() map[string][2]int {
	return map[string][2]int{
		"mark": {0, 1}, "K": {3, 0x13}, "chunk's size": {4, 1}, "code's size": {6, 1}, "code's size, greater": {7, 4}, "digest": {8, 128}, "digest's end": {39, 1}, "sum": {40, 1}, "code": {44, 1}, "code's end": {511, 32},
	}
}

func TestPutOfWhatIsDamaged(t *testing.T) {
	x := api.Extent{At: 1, N: 8}
	b := wild(3, 1)
	other := wild(2, 9)
	m := zeros(10).with(1, packed(t, other)).with(3, packed(t, b))
	for what, c := range spoils() {
		rot := func(d *disk.Disk) { rotted(t, d, 3, c[0], byte(c[1])) }
		d := m.device(t)
		s := opened(t, d, x)
		rot(d)
		scrubbed(t, what, s, rising(b))
		put(t, s, b)
		tells(t, what, s, rising(b, other), 3)
		got(t, what, s, b)
		got(t, what, s, other)
		scrubbed(t, what, s, nil)
		if !alike(held(t, d), m) {
			t.Errorf("%s: the blocks hold something else", what)
		}
		bad := m.rotten(3, c[0], byte(c[1]))
		want := append(dropping(bad, api.Extent{At: 3, N: 3}), laying(3, packed(t, b))...)
		does(t, what, bad, putting(t, m, x, b, rot), want)
	}
}

func TestWhatWasDamagedMoves(t *testing.T) {
	x := api.Extent{At: 0, N: 8}
	b := wild(2, 1)
	m := zeros(8).with(5, packed(t, b))
	d := m.device(t)
	s := opened(t, d, x)
	rotted(t, d, 6, 100, 1)
	put(t, s, b)
	if !alike(held(t, d), zeros(8).with(0, packed(t, b))) {
		t.Error("the blocks hold something else")
	}
	tells(t, "moved", s, rising(b), 6)
	got(t, "moved", s, b)
}

// A chunk whose head says fewer blocks than it needs, so that it is dropped and cannot be put.
func TestWhatWasDamagedIsDroppedThoughThereIsNoRoom(t *testing.T) {
	b := wild(3, 1)
	bad := head("SCHK", len(b), 1, digest(b))
	x := api.Extent{At: 0, N: 4}
	m := zeros(4).with(0, packed(t, []byte("first"))).with(1, bad).with(3, packed(t, []byte("last")))
	d := m.device(t)
	s := opened(t, d, x)
	tells(t, "damaged", s, rising(b, []byte("first"), []byte("last")), 1)
	getFails(t, "damaged", s, digest(b), api.ErrDamaged)
	for range 2 {
		putFails(t, "no room", s, b, api.ErrFull)
		tells(t, "dropped", s, rising([]byte("first"), []byte("last")), 2)
		getFails(t, "dropped", s, digest(b), api.ErrNone)
		if !alike(held(t, d), zeros(4).with(0, m[0]).with(3, m[3])) || d.Open() != 0 {
			t.Error("the blocks hold something else")
		}
	}
	put(t, s, wild(2, 5))
}

func TestADevicesErrorWithinPutOfWhatIsDamaged(t *testing.T) {
	b := wild(3, 1)
	x := api.Extent{At: 0, N: 8}
	m := zeros(8).with(4, packed(t, b))
	rot := func(d *disk.Disk) { rotted(t, d, 5, 7, 1) }
	steps := traced(t, putting(t, m, x, b, rot))
	for n := range steps {
		d, call := putting(t, m, x, b, rot)()
		fused(t, d, n)
		if e := call(); e != api.ErrDark {
			t.Errorf("a fuse of %d: %d", n, e)
		}
		s := opened(t, lost(t, d, way{}), x)
		put(t, s, b)
		got(t, "behind Open", s, b)
	}
}

// Blocks that hold another chunk, whole, are ones that pack.Read takes.
func TestPutWhereAnotherChunkStands(t *testing.T) {
	d, s := fresh(t, 4)
	a, b := []byte("a"), []byte("b")
	put(t, s, a)
	if e := d.Write(0, packed(t, b)); e != api.OK {
		t.Fatal(e)
	}
	fused(t, d, 0)
	put(t, s, a)
	getFails(t, "another", s, digest(a), api.ErrDamaged)
	getFails(t, "the other", s, digest(b), api.ErrNone)
	tells(t, "another", s, rising(a), 3)
}

func TestPutNeitherChangesNorKeepsItsBytes(t *testing.T) {
	d, s := fresh(t, 8)
	b := wild(2, 1)
	c := bytes.Clone(b)
	put(t, s, c)
	if !bytes.Equal(b, c) {
		t.Error("it is changed")
	}
	clear(c)
	got(t, "changed by its owner", s, b)
	if !alike(held(t, d), zeros(8).with(0, packed(t, b))) {
		t.Error("the blocks hold something else")
	}
}

func TestTheFirstExample(t *testing.T) {
	d, s := fresh(t, 4)
	b := bytes.Repeat([]byte("a"), 100)
	put(t, s, b)
	tells(t, "once", s, rising(b), 3)
	put(t, s, b)
	tells(t, "again", s, rising(b), 3)
	d, s = fresh(t, 4)
	fused(t, d, 2)
	putFails(t, "behind its first sync", s, b, api.ErrDark)
	s = opened(t, lost(t, d, way{}), api.Extent{At: 0, N: 4})
	tells(t, "behind the loss", s, nil, 4)
}

// P12.1 to P12.4: a device's error is told as it is.

func TestADeviceThatTakesNoMoreWrites(t *testing.T) {
	d := zeros(12).device(t)
	x := api.Extent{At: 0, N: 8}
	s := opened(t, d, x)
	a, b := wild(2, 1), wild(3, 2)
	put(t, s, a)
	for range 65536 {
		if e := d.Write(9, []byte("elsewhere")); e != api.OK {
			t.Fatal(e)
		}
	}
	putFails(t, "many open", s, b, api.ErrMany)
	if n, e := s.Keep(); n != 0 || e != api.ErrMany {
		t.Errorf("Keep: %d, %d", n, e)
	}
	put(t, s, a)
	got(t, "many open", s, a)
	tells(t, "many open", s, rising(a), 6)
	if _, e := d.Sync(); e != api.OK {
		t.Fatal(e)
	}
	put(t, s, b)
	got(t, "synced", s, b)
}

func TestADeviceThatIsTakenAway(t *testing.T) {
	d, s := fresh(t, 8)
	b := wild(2, 1)
	put(t, s, b)
	*d = disk.Disk{}
	getFails(t, "no device", s, digest(b), api.ErrNil)
	putFails(t, "no device", s, b, api.ErrNil)
	putFails(t, "no device", s, []byte("a"), api.ErrNil)
	if n, e := s.Keep(); n != 0 || e != api.ErrNil {
		t.Errorf("Keep: %d, %d", n, e)
	}
	if l, e := s.Scrub(); len(l) != 0 || e != api.ErrNil {
		t.Errorf("Scrub: %x, %d", l, e)
	}
	tells(t, "no device", s, rising(b), 6)
}
