package store

import (
	"bytes"

	"saltern/api"
	"saltern/disk"
	"saltern/pack"
)

// The byte of a head that says whether its blocks are a chunk's or claimed.
const (
	markAt  = 3
	whole   = 'K'
	claimed = 'X'
)

// found is what stands in a store's blocks.
type found struct {
	chunks map[api.Digest]api.Extent
	others []api.Extent // the claimed ones and the loose ones, rising
}

// find goes through blocks that lie in the device's.
func find(d *disk.Disk, x api.Extent) (found, api.Errno) {
	f := found{chunks: map[api.Digest]api.Extent{}}
	end := x.At + x.N
	for at := x.At; at < end; {
		b, e := d.Read(at)
		if e != api.OK {
			return found{}, e
		}
		at += f.note(at, end-at, b)
	}
	return f, api.OK
}

// note takes what begins with a block, from which on so many blocks are left: how many are passed over.
func (f *found) note(at, left int, block []byte) int {
	h, ok := headOf(block)
	if !ok || h.blocks > left {
		h = head{claimed: true, blocks: 1} // a loose block goes as a claimed one does
	}
	x := api.Extent{At: at, N: h.blocks}
	if _, twice := f.chunks[h.digest]; twice || h.claimed {
		f.others = append(f.others, x)
	} else {
		f.chunks[h.digest] = x
	}
	return h.blocks
}

// head is what a chunk's first block says.
type head struct {
	digest  api.Digest
	blocks  int
	claimed bool
}

// headOf reads a block as a head, if it is one.
func headOf(block []byte) (head, bool) {
	h := head{claimed: block[markAt] == claimed}
	if h.claimed {
		block = marked(block, whole)
	}
	var e api.Errno
	h.digest, h.blocks, e = pack.Head(block)
	return h, e == api.OK
}

// marked is a block with another mark.
func marked(block []byte, mark byte) []byte {
	b := bytes.Clone(block)
	b[markAt] = mark
	return b
}
