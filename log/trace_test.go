package log_test

import (
	"bytes"
	"crypto/sha256"
	"fmt"
	"slices"
	"testing"

	"saltern/api"
	"saltern/disk"
	"saltern/log"
)

// task makes a device, and a call that works on it.
type task func() (*disk.Disk, func() api.Errno)

// working is a task: a call of the log in an image that Open does not change; where a device's error ends it, the log must tell what it told.
func working(t *testing.T, m image, x api.Extent, call func(l *log.Log) api.Errno) task {
	t.Helper()
	return func() (*disk.Disk, func() api.Errno) {
		d := m.device(t)
		fused(t, d, 0)
		l := opened(t, d, x)
		fused(t, d, -1)
		was := lookedAt(m, x).state(x)
		return d, func() api.Errno {
			e := call(l)
			if e != api.OK {
				tells(t, "behind a device's error", l, was)
			}
			return e
		}
	}
}

// opening is a task: Open of an image.
func opening(t *testing.T, m image, x api.Extent) task {
	t.Helper()
	return func() (*disk.Disk, func() api.Errno) {
		d := m.device(t)
		return d, func() api.Errno {
			l, e := log.Open(d, x)
			if (l == nil) != (e != api.OK) {
				t.Errorf("Open: %v beside %d", l, e)
			}
			return e
		}
	}
}

// step is a write of a block, or a sync; unseen is a write that changes nothing.
type step struct {
	block int
	bytes string
}

const (
	aSync  = -1
	unseen = -2
)

func (s step) String() string {
	if s.block < 0 {
		return []string{"", "sync", "unseen"}[-s.block]
	}
	return fmt.Sprintf("%d:%.8x", s.block, s.bytes)
}

// writing are the steps of bytes that are written from a block on.
func writing(at int, b []byte) []step {
	var l []step
	for p := range slices.Chunk(b, 512) {
		l = append(l, step{at, string(p)})
		at++
	}
	return l
}

// settling are those steps, and a sync.
func settling(at int, b []byte) []step {
	return append(writing(at, b), step{block: aSync})
}

// traced is all steps of a call, by fuses of one more each: the call with so many does just as many.
func traced(t *testing.T, make task) []step {
	t.Helper()
	d, _ := make()
	last, open := held(t, d), d.Open()
	var l []step
	for n := 0; ; n++ {
		d, call := make()
		fused(t, d, n)
		e := call()
		now := held(t, d)
		if n > 0 {
			l = append(l, between(t, last, now, open, d.Open()))
		} else if !alike(now, last) || d.Open() != open {
			t.Fatal("with a fuse of 0 something is written")
		}
		last, open = now, d.Open()
		if e == api.OK {
			return l
		}
		if e != api.ErrDark {
			t.Fatalf("with a fuse of %d: %d", n, e)
		}
	}
}

// between is the step that lies between two images, with so many open writes each.
func between(t *testing.T, a, b image, was, is int) step {
	t.Helper()
	var changed []int
	for i := range a {
		if !bytes.Equal(a[i], b[i]) {
			changed = append(changed, i)
		}
	}
	switch {
	case is == 0 && len(changed) == 0:
		return step{block: aSync}
	case is == was+1 && len(changed) == 0:
		return step{block: unseen}
	case is == was+1 && len(changed) == 1:
		return step{changed[0], string(b[changed[0]])}
	}
	t.Fatalf("%d blocks are changed at once; %d writes are open, behind %d", len(changed), is, was)
	return step{}
}

// does asks that a call does these steps on an image, no more and no less.
func does(t *testing.T, what string, m image, make task, want []step) {
	t.Helper()
	m = slices.Clone(m)
	want = slices.Clone(want)
	for k, s := range want {
		if s.block >= 0 && string(m[s.block]) == s.bytes {
			want[k] = step{block: unseen}
		} else if s.block >= 0 {
			m[s.block] = []byte(s.bytes)
		}
	}
	if l := traced(t, make); !slices.Equal(l, want) {
		t.Errorf("%s:\n%v, not\n%v", what, l, want)
	}
}

// way is one to lose power.
type way struct {
	keep []bool
	torn int
	at   int
}

// keeps are all choices of a few open writes, and many of more.
func keeps(open int) [][]bool {
	var l [][]bool
	if open <= 4 {
		for set := range 1 << open {
			l = append(l, bools(open, func(k int) bool { return set>>k&1 == 1 }))
		}
		return l
	}
	for n := range open + 1 {
		l = append(l, bools(open, func(k int) bool { return k < n }))
		l = append(l, bools(open, func(k int) bool { return k == n }))
		l = append(l, bools(open, func(k int) bool { return k != n }))
	}
	return append(l, bools(open, func(k int) bool { return k%2 == 0 }), bools(open, func(k int) bool { return k%3 > 0 }))
}

func bools(n int, is func(k int) bool) []bool {
	l := make([]bool, n)
	for k := range l {
		l[k] = is(k)
	}
	return l
}

// ways are those to lose so many open writes: each one kept, dropped and torn.
func ways(open int) []way {
	all := keeps(open)
	var l []way
	for _, keep := range all {
		l = append(l, way{keep, -1, 0})
	}
	if open > 4 {
		all = [][]bool{nil, slices.Repeat([]bool{true}, open), bools(open, func(k int) bool { return k%2 == 1 })}
	}
	for _, keep := range all {
		for torn := range open {
			for _, at := range []int{0, 1, 4, 5, 8, 12, 16, 17, 40, 48, 300, 511, 512} {
				l = append(l, way{keep, torn, at})
			}
		}
	}
	return l
}

// losses loses power behind each single write and sync of a call, and behind all of them, in all ways; check is told whether the call had ended, and what each loss left.
func losses(t *testing.T, make task, check func(done bool, d *disk.Disk)) {
	t.Helper()
	steps := traced(t, make)
	for n := range len(steps) + 1 {
		d, call := make()
		fused(t, d, n)
		done := call() == api.OK
		lasts := held(t, lost(t, d, way{torn: -1}))
		open := openOf(steps[:n])
		seen := map[[32]byte]int{}
		for _, w := range ways(len(open)) {
			d := lasts.device(t)
			for _, s := range open {
				if e := d.Write(s.block, []byte(s.bytes)); e != api.OK {
					t.Fatalf("Write(%d): %d", s.block, e)
				}
			}
			d = lost(t, d, w)
			// Most ways leave the same blocks as others.
			sum := sha256.Sum256(slices.Concat(held(t, d)...))
			if seen[sum]++; seen[sum] > 1 {
				continue
			}
			check(done, d)
			if t.Failed() {
				t.Fatalf("a fuse of %d, %v", n, w)
			}
		}
	}
}

// openOf are those of some steps that are open behind them.
func openOf(steps []step) []step {
	var open []step
	for _, s := range steps {
		if s.block == aSync {
			open = nil
		} else if s.block != unseen {
			open = append(open, s)
		}
	}
	return open
}
