package log

import (
	"slices"

	"saltern/api"
	"saltern/blocks"
	"saltern/disk"
	"saltern/record"
)

// leastBlocks is the fewest that a log has: those of the vows, and one for records.
const leastBlocks = vowBlocks + 1

// entry is a record of a log, its head, and the block behind its last one.
type entry struct {
	record api.Record
	head   api.Head
	end    int
}

// book is what lies behind a Log. It changes behind the writes and syncs that a
// change needs, so that a device's error leaves what it told.
type book struct {
	device  *disk.Disk
	place   api.Extent
	entries []entry
	synced  int // how many of them last
	vow     vow // of the promise
	broken  bool
}

// holds tells whether a device of so many blocks has a log's.
func holds(size int, x api.Extent) bool {
	return x.At >= 0 && x.N >= leastBlocks && x.At <= size-x.N
}

// found is what stands in some blocks.
func found(d *disk.Disk, x api.Extent) (*book, api.Errno) {
	b, e := blocks.Read(d, x)
	if e != api.OK {
		return nil, e
	}
	vows, row := b[:vowBlocks*api.Block], b[vowBlocks*api.Block:]
	k := &book{device: d, place: x, vow: promised(vows)}
	for r, n := range records(row) {
		h, e := record.Next(k.headAt(k.len()), r)
		if e != api.OK {
			k.broken = true
			break
		}
		k.note(r, h, n)
	}
	k.synced = k.len()
	return k, api.OK
}

func (k *book) len() int {
	return len(k.entries)
}

// reaches tells whether a number is a record's, or 0.
func (k *book) reaches(seq int) bool {
	return seq >= 0 && seq <= k.len()
}

// headAt is the head behind the first n records.
func (k *book) headAt(n int) api.Head {
	if n == 0 {
		return api.Head{}
	}
	return k.entries[n-1].head
}

// endAt is the block behind the first n records.
func (k *book) endAt(n int) int {
	if n == 0 {
		return k.place.At + vowBlocks
	}
	return k.entries[n-1].end
}

// behind are the blocks behind all records.
func (k *book) behind() api.Extent {
	end := k.endAt(k.len())
	return api.Extent{At: end, N: k.place.At + k.place.N - end}
}

// note has a record, of so many blocks, as the last one.
func (k *book) note(r api.Record, h api.Head, n int) {
	k.entries = append(k.entries, entry{r, h, k.endAt(k.len()) + n})
}

// promise has a vow of another epoch last. It takes the block of the vow ahead of
// that which counts, so that this one outlives a loss.
func (k *book) promise(epoch int) api.Errno {
	next := vow{epoch, k.vow.count + 1} // behind the greatest count comes 0: no log lives so long
	at := k.place.At + int(next.count%vowBlocks)
	if e := blocks.Settle(k.device, at, next.block()); e != api.OK {
		return e
	}
	k.vow = next
	k.synced = k.len()
	return api.OK
}

// lay writes a record behind the last one.
func (k *book) lay(r api.Record) api.Errno {
	h, e := record.Next(k.headAt(k.len()), r)
	if e != api.OK {
		return e
	}
	row := laid(r)
	free, n := k.behind(), len(row)/api.Block
	if n > free.N {
		return api.ErrFull
	}
	if e := blocks.Write(k.device, free.At, row); e != api.OK {
		return e
	}
	k.note(copied(r), h, n)
	return api.OK
}

func (k *book) sync() api.Errno {
	if e := blocks.Sync(k.device); e != api.OK {
		return e
	}
	k.synced = k.len()
	return api.OK
}

// cut leaves the first n records, fewer than there are. The first block behind them
// goes ahead of the others, so that whatever is left of these is not found.
func (k *book) cut(n int) api.Errno {
	first, end := k.endAt(n), k.endAt(k.len())
	if e := blocks.Settle(k.device, first, blocks.Clear(1)); e != api.OK {
		return e
	}
	if e := blocks.Settle(k.device, first+1, blocks.Clear(end-first-1)); e != api.OK {
		return e
	}
	k.entries = slices.Delete(k.entries, n, k.len())
	k.synced = n
	return api.OK
}

// copied is a record that shares no memory with another one.
func copied(r api.Record) api.Record {
	r.Pieces = slices.Clone(r.Pieces)
	return r
}
