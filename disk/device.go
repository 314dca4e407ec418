package disk

import "saltern/api"

// The fuse of a device on which none is set.
const noFuse = -1

type block [api.Block]byte

// write is an open one, of the block i.
type write struct {
	i int
	b block
}

// device is what lies behind a Disk. When it is down, it has its size alone.
type device struct {
	size   int
	lasts  map[int]block // but those of zeros, which take no room
	open   []write
	newest map[int]int // the place of each block's last open write
	fuse   int
	down   bool
}

func begin(size int, lasts map[int]block) *device {
	return &device{size: size, lasts: lasts, newest: map[int]int{}, fuse: noFuse}
}

func (v *device) holds(i int) block {
	if k, ok := v.newest[i]; ok {
		return v.open[k].b
	}
	return v.lasts[i]
}

// burn takes one off the fuse, so it comes behind all other errors of a call.
func (v *device) burn() api.Errno {
	if v.fuse == 0 {
		return api.ErrDark
	}
	if v.fuse > 0 {
		v.fuse--
	}
	return api.OK
}

func (v *device) lay(i int, b []byte) {
	w := write{i: i}
	copy(w.b[:], b)
	v.newest[i] = len(v.open)
	v.open = append(v.open, w)
}

func (v *device) settle() int {
	n := len(v.open)
	for k := range n {
		v.do(v.open[k], api.Block)
	}
	// Room for as many writes as there once were is not held on to.
	v.open = nil
	clear(v.newest)
	return n
}

// do makes the first n bytes of a write last: a loss may tear it.
func (v *device) do(w write, n int) {
	b := v.lasts[w.i]
	copy(b[:n], w.b[:n])
	v.hold(w.i, b)
}

func (v *device) hold(i int, b block) {
	if b == (block{}) {
		delete(v.lasts, i)
		return
	}
	v.lasts[i] = b
}

func (v *device) rot(i, at int, mask byte) {
	b := v.lasts[i]
	b[at] ^= mask
	v.hold(i, b)
	for k := range len(v.open) {
		if v.open[k].i == i {
			v.open[k].b[at] ^= mask
		}
	}
}

// kept is how many bytes of the open write at the place k outlive a loss.
func kept(k int, keep []bool, torn, at int) int {
	switch {
	case k == torn:
		return max(at, 0) % (api.Block + 1)
	case k < len(keep) && keep[k]:
		return api.Block
	}
	return 0
}
