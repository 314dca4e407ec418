// Package blocks reads and writes rows of a device's blocks, for the layers that lay things on one.
package blocks

import (
	"bytes"
	"slices"

	"saltern/api"
	"saltern/disk"
)

// Read is what some blocks hold.
func Read(d *disk.Disk, x api.Extent) ([]byte, api.Errno) {
	all := make([]byte, 0, x.N*api.Block)
	for i := range x.N {
		b, e := d.Read(x.At + i)
		if e != api.OK {
			return nil, e
		}
		all = append(all, b...)
	}
	return all, api.OK
}

// Write writes bytes into blocks, from one on.
func Write(d *disk.Disk, at int, row []byte) api.Errno {
	for b := range slices.Chunk(row, api.Block) {
		if e := d.Write(at, b); e != api.OK {
			return e
		}
		at++
	}
	return api.OK
}

// Settle writes bytes into blocks, and has them last; of no bytes it does nothing.
func Settle(d *disk.Disk, at int, row []byte) api.Errno {
	if len(row) == 0 {
		return api.OK
	}
	if e := Write(d, at, row); e != api.OK {
		return e
	}
	return Sync(d)
}

// Wipe clears those of some blocks that are not clear yet, and has that last; where all are, it does nothing.
func Wipe(d *disk.Disk, row ...api.Extent) api.Errno {
	written := 0
	for _, x := range row {
		n, e := wipe(d, x)
		if e != api.OK {
			return e
		}
		written += n
	}
	if written == 0 {
		return api.OK
	}
	return Sync(d)
}

// wipe writes those of an extent's blocks that are not clear yet: how many.
func wipe(d *disk.Disk, x api.Extent) (int, api.Errno) {
	zeros := Clear(1)
	written := 0
	for i := range x.N {
		b, e := d.Read(x.At + i)
		if e != api.OK {
			return 0, e
		}
		if bytes.Equal(b, zeros) {
			continue
		}
		if e := d.Write(x.At+i, zeros); e != api.OK {
			return 0, e
		}
		written++
	}
	return written, api.OK
}

// Clear are the bytes of n clear blocks.
func Clear(n int) []byte {
	return make([]byte, n*api.Block)
}

// Sync has all writes last.
func Sync(d *disk.Disk) api.Errno {
	_, e := d.Sync()
	return e
}
