package store_test

import (
	"bytes"
	"encoding/binary"
	"fmt"
	"slices"
	"testing"

	"saltern/api"
	"saltern/disk"
)

// task makes a device, and a call that works on it.
type task func() (*disk.Disk, func() api.Errno)

// step is a write of a block, or a sync; unseen is a write that changes nothing.
type step struct {
	block int
	bytes string
}

const (
	aSync  = -1
	unseen = -2
)

func (s step) String() string {
	if s.block < 0 {
		return []string{"", "sync", "unseen"}[-s.block]
	}
	return fmt.Sprintf("%d:%.8x", s.block, s.bytes)
}

// traced is all steps of a call, by fuses of one more each: the call with so many does just as many.
func traced(t *testing.T, make task) []step {
	t.Helper()
	d, _ := make()
	last, open := held(t, d), d.Open()
	var l []step
	for n := 0; ; n++ {
		d, call := make()
		fused(t, d, n)
		e := call()
		now := held(t, d)
		if n > 0 {
			l = append(l, between(t, last, now, open, d.Open()))
		} else if !alike(now, last) || d.Open() != open {
			t.Fatal("with a fuse of 0 something is written")
		}
		last, open = now, d.Open()
		if e == api.OK {
			return l
		}
		if e != api.ErrDark {
			t.Fatalf("with a fuse of %d: %d", n, e)
		}
	}
}

// between is the step that lies between two images, with so many open writes each.
func between(t *testing.T, a, b image, was, is int) step {
	t.Helper()
	var changed []int
	for i := range a {
		if !bytes.Equal(a[i], b[i]) {
			changed = append(changed, i)
		}
	}
	switch {
	case is == 0 && len(changed) == 0:
		return step{block: aSync}
	case is == was+1 && len(changed) == 0:
		return step{block: unseen}
	case is == was+1 && len(changed) == 1:
		return step{changed[0], string(b[changed[0]])}
	}
	t.Fatalf("%d blocks are changed at once; %d writes are open, behind %d", len(changed), is, was)
	return step{}
}

// does asks that a call does these steps on an image, no more and no less.
func does(t *testing.T, what string, m image, make task, want []step) {
	t.Helper()
	m = slices.Clone(m)
	for k, s := range want {
		if s.block >= 0 && string(m[s.block]) == s.bytes {
			want[k] = step{block: unseen}
		} else if s.block >= 0 {
			m[s.block] = []byte(s.bytes)
		}
	}
	if l := traced(t, make); !slices.Equal(l, want) {
		t.Errorf("%s:\n%v, not\n%v", what, l, want)
	}
}

// laying are the steps of a chunk's blocks that are put, by the chapter's words.
func laying(at int, blocks []byte) []step {
	l := []step{{at, string(claimed(blocks)[:512])}, {block: aSync}}
	for k := 1; k < len(blocks)/512; k++ {
		l = append(l, step{at + k, string(blocks[k*512:][:512])})
	}
	if len(blocks) > 512 {
		l = append(l, step{block: aSync})
	}
	return append(l, step{at, string(blocks[:512])}, step{block: aSync})
}

// dropping are the steps of a row, rising, that is dropped.
func dropping(m image, row ...api.Extent) []step {
	var l []step
	m = slices.Clone(m)
	for _, x := range row {
		m[x.At] = claimed(m[x.At])
		l = append(l, step{x.At, string(m[x.At])})
	}
	return append(append(l, step{block: aSync}), erasing(m, row...)...)
}

// erasing are the steps of a row that is erased.
func erasing(m image, row ...api.Extent) []step {
	var behind, places []int
	for _, x := range row {
		places = append(places, x.At)
		for i := x.At + 1; i < x.At+x.N; i++ {
			behind = append(behind, i)
		}
	}
	return append(clearing(m, behind), clearing(m, places)...)
}

func clearing(m image, blocks []int) []step {
	empty := make([]byte, 512)
	var l []step
	for _, i := range blocks {
		if !bytes.Equal(m[i], empty) {
			l = append(l, step{i, string(empty)})
		}
	}
	if len(l) > 0 {
		l = append(l, step{block: aSync})
	}
	return l
}

// there is what an image has, by the chapter's words.
type there struct {
	chunks map[api.Digest]api.Extent
	others []api.Extent
}

// saidBlocks is how many blocks a head says, 0 if it is none; heads are read here anew, without pack.
func saidBlocks(b []byte) int {
	chunk, code := int(binary.LittleEndian.Uint16(b[4:])), int(binary.LittleEndian.Uint16(b[6:]))
	mark := string(b[:4])
	if mark != "SCHK" && mark != "SCHX" || chunk < 1 || chunk > 4096 || code < 1 || code > 4100 {
		return 0
	}
	return (44 + code + 511) / 512
}

func lookedAt(m image, x api.Extent) there {
	v := there{chunks: map[api.Digest]api.Extent{}}
	for at := x.At; at < x.At+x.N; {
		n := saidBlocks(m[at])
		d := api.Digest(m[at][8:40])
		_, twice := v.chunks[d]
		switch {
		case n == 0 || at+n > x.At+x.N:
			n = 1
			v.others = append(v.others, api.Extent{At: at, N: 1})
		case m[at][3] == 'X' || twice:
			v.others = append(v.others, api.Extent{At: at, N: n})
		default:
			v.chunks[d] = api.Extent{At: at, N: n}
		}
		at += n
	}
	return v
}

func (v there) digests() []api.Digest {
	var l []api.Digest
	for d := range v.chunks {
		l = append(l, d)
	}
	slices.SortFunc(l, func(a, b api.Digest) int { return bytes.Compare(a[:], b[:]) })
	return l
}

func (v there) free() int {
	n := 0
	for _, x := range v.others {
		n += x.N
	}
	return n
}

// finds asks that Open does on an image what the chapter's words say, and that it tells what is there.
func finds(t *testing.T, what string, m image, x api.Extent) {
	t.Helper()
	v := lookedAt(m, x)
	d := m.device(t)
	s := opened(t, d, x)
	tells(t, what, s, v.digests(), v.free())
	want := slices.Clone(m)
	for _, o := range v.others {
		want = want.with(o.At, make([]byte, o.N*512))
	}
	if !alike(held(t, d), want) || d.Open() != 0 {
		t.Errorf("%s: the blocks hold something else", what)
	}
	does(t, what, m, func() (*disk.Disk, func() api.Errno) { return opening(t, m, x) }, erasing(m, v.others...))
}
