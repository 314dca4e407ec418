package store

import (
	"maps"
	"slices"

	"saltern/api"
	"saltern/blocks"
	"saltern/disk"
	"saltern/pack"
	"saltern/region"
)

// shelf is what lies behind a Store. Each of its blocks is one chunk's, or free.
// It changes behind a call's last write alone, so that it tells what it told
// ahead of a call that a device's error ended.
type shelf struct {
	device *disk.Disk
	chunks map[api.Digest]api.Extent
	free   []api.Extent
}

// get is the chunk of a digest.
func (s *shelf) get(d api.Digest) ([]byte, api.Errno) {
	x, there := s.chunks[d]
	if !there {
		return nil, api.ErrNone
	}
	chunk, told, e := chunkAt(s.device, x)
	if e != api.OK {
		return nil, e
	}
	if told != d {
		return nil, api.ErrDamaged
	}
	return chunk, api.OK
}

// put has the blocks of a digest's chunk there.
func (s *shelf) put(d api.Digest, row []byte) api.Errno {
	free := s.free
	if x, there := s.chunks[d]; there {
		if _, _, e := chunkAt(s.device, x); e != api.ErrDamaged {
			return e
		}
		if e := drop(s.device, x); e != api.OK {
			return e
		}
		free = given(free, x)
	}
	x, left, e := region.Take(api.MaxBlocks, free, len(row)/api.Block)
	if e != api.OK {
		// What was damaged has been dropped, though there is no room for it anew.
		delete(s.chunks, d)
		s.free = free
		return e
	}
	if e := lay(s.device, x.At, row); e != api.OK {
		return e
	}
	s.chunks[d] = x
	s.free = left
	return api.OK
}

// dropAll drops some of the chunks: how many.
func (s *shelf) dropAll(some map[api.Digest]api.Extent) (int, api.Errno) {
	if len(some) == 0 {
		return 0, api.OK
	}
	places := slices.SortedFunc(maps.Values(some), func(a, b api.Extent) int {
		return a.At - b.At
	})
	if e := drop(s.device, places...); e != api.OK {
		return 0, e
	}
	for d := range some {
		delete(s.chunks, d)
	}
	s.free = given(s.free, places...)
	return len(some), api.OK
}

// chunkAt is the chunk that stands in some blocks, and the digest that they say.
func chunkAt(d *disk.Disk, x api.Extent) ([]byte, api.Digest, api.Errno) {
	b, e := blocks.Read(d, x)
	if e != api.OK {
		return nil, api.Digest{}, e
	}
	chunk, _, e := pack.Read(b)
	if e != api.OK {
		return nil, api.Digest{}, api.ErrDamaged
	}
	told, _, _ := pack.Head(b) // which takes what Read takes
	return chunk, told, api.OK
}

// given is a free row with the blocks of some extents. None of them is in the
// row yet, and all lie in what a device has at most, so Give has no error.
func given(row []api.Extent, l ...api.Extent) []api.Extent {
	for _, x := range l {
		row, _ = region.Give(api.MaxBlocks, row, x)
	}
	return row
}
