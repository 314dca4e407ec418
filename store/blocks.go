package store

import (
	"saltern/api"
	"saltern/blocks"
	"saltern/disk"
)

// lay writes a chunk's blocks. Its head claims them until all of them last, for
// what is put may look like heads, too.
func lay(d *disk.Disk, at int, row []byte) api.Errno {
	first, others := row[:api.Block], row[api.Block:]
	if e := blocks.Settle(d, at, marked(first, claimed)); e != api.OK {
		return e
	}
	if e := blocks.Settle(d, at+1, others); e != api.OK {
		return e
	}
	return blocks.Settle(d, at, first)
}

// drop claims the blocks of chunks, and erases them.
func drop(d *disk.Disk, row ...api.Extent) api.Errno {
	for _, x := range row {
		b, e := d.Read(x.At)
		if e != api.OK {
			return e
		}
		if e := d.Write(x.At, marked(b, claimed)); e != api.OK {
			return e
		}
	}
	if e := blocks.Sync(d); e != api.OK {
		return e
	}
	return erase(d, row)
}

// erase clears the places last: as long as they stand, what is left behind them
// is not taken for heads.
func erase(d *disk.Disk, row []api.Extent) api.Errno {
	var places, behind []api.Extent
	for _, x := range row {
		places = append(places, api.Extent{At: x.At, N: 1})
		behind = append(behind, api.Extent{At: x.At + 1, N: x.N - 1})
	}
	if e := blocks.Wipe(d, behind...); e != api.OK {
		return e
	}
	return blocks.Wipe(d, places...)
}
