package store

import (
	"bytes"
	"slices"

	"saltern/api"
	"saltern/disk"
	"saltern/pack"
)

// read is what some blocks hold.
func read(d *disk.Disk, x api.Extent) ([]byte, api.Errno) {
	var all []byte
	for i := range x.N {
		b, e := d.Read(x.At + i)
		if e != api.OK {
			return nil, e
		}
		all = append(all, b...)
	}
	return all, api.OK
}

// lay writes a chunk's blocks. Its head claims them until all of them last, for
// what is put may look like heads, too.
func lay(d *disk.Disk, at int, blocks []byte) api.Errno {
	first, others := blocks[:api.Block], blocks[api.Block:]
	if e := settle(d, at, marked(first, claimed)); e != api.OK {
		return e
	}
	if len(others) > 0 {
		if e := settle(d, at+1, others); e != api.OK {
			return e
		}
	}
	return settle(d, at, first)
}

// settle writes blocks, one behind the other, and has them last.
func settle(d *disk.Disk, at int, blocks []byte) api.Errno {
	for b := range slices.Chunk(blocks, api.Block) {
		if e := d.Write(at, b); e != api.OK {
			return e
		}
		at++
	}
	return synced(d)
}

// drop claims the blocks of chunks, and erases them.
func drop(d *disk.Disk, row ...api.Extent) api.Errno {
	for _, x := range row {
		b, e := d.Read(x.At)
		if e != api.OK {
			return e
		}
		if e := d.Write(x.At, marked(b, claimed)); e != api.OK {
			return e
		}
	}
	if e := synced(d); e != api.OK {
		return e
	}
	return erase(d, row)
}

// erase clears the places last: as long as they stand, what is left behind them
// is not taken for heads.
func erase(d *disk.Disk, row []api.Extent) api.Errno {
	var places, behind []int
	for _, x := range row {
		places = append(places, x.At)
		for i := 1; i < x.N; i++ {
			behind = append(behind, x.At+i)
		}
	}
	if e := wipe(d, behind); e != api.OK {
		return e
	}
	return wipe(d, places)
}

// wipe clears those of some blocks that are not clear yet.
func wipe(d *disk.Disk, blocks []int) api.Errno {
	empty := pack.Erased()
	written := 0
	for _, i := range blocks {
		b, e := d.Read(i)
		if e != api.OK {
			return e
		}
		if bytes.Equal(b, empty) {
			continue
		}
		if e := d.Write(i, empty); e != api.OK {
			return e
		}
		written++
	}
	if written == 0 {
		return api.OK
	}
	return synced(d)
}

// synced has all writes last.
func synced(d *disk.Disk) api.Errno {
	_, e := d.Sync()
	return e
}
