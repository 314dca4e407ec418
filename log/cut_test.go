package log_test

import (
	"testing"

	"saltern/api"
	"saltern/disk"
	"saltern/log"
)

// P14.5, P14.7

// cutting are the steps of a cut behind the first n records of a log whose records begin at a block.
func cutting(at int, row []api.Record, n int) []step {
	if n == len(row) {
		return nil
	}
	first, end := at+len(blocksOf(row[:n]...))/512, at+len(blocksOf(row...))/512
	l := settling(first, make([]byte, 512))
	if first+1 < end {
		l = append(l, settling(first+1, make([]byte, 512*(end-first-1)))...)
	}
	return l
}

// rows are catalogues to cut.
func rows(t *testing.T) [][]api.Record {
	t.Helper()
	return [][]api.Record{nil, rowOf(t, 2), rowOf(t, 2, 1), rowOf(t, 2, 3), rowOf(t, 2, 1, 3, 1, 2), rowOf(t, 2, 4, 1, 1, 1)}
}

func TestCut(t *testing.T) {
	x := api.Extent{At: 1, N: 12}
	for _, row := range rows(t) {
		m := zeros(14).with(0, []byte("outside")).with(13, []byte("outside")).with(1, vowed(7, 2)).with(3, blocksOf(row...))
		room := 10 - len(blocksOf(row...))/512
		for seq := range len(row) + 1 {
			cut := func(l *log.Log) api.Errno { return l.Cut(seq) }
			does(t, "Cut", m, working(t, m, x, cut), cutting(3, row, seq))
			d := m.device(t)
			l := opened(t, d, x)
			ends(t, "Cut", l.Cut(seq), api.OK)
			gone := len(blocksOf(row[seq:]...))
			left := state{records: row[:seq], synced: seq, room: room + gone/512, promise: 7}
			tells(t, "cut", l, left)
			want := m.with(13-left.room, make([]byte, gone))
			holds(t, "cut", d, want, 0)
			fused(t, d, 0)
			ends(t, "Cut of Len", l.Cut(seq), api.OK)
			ends(t, "Cut beyond Len", l.Cut(seq+1), api.ErrRange)
			ends(t, "Cut below 0", l.Cut(-1), api.ErrRange)
			tells(t, "anew", opened(t, d, x), left)
			fused(t, d, -1)
			tells(t, "behind a loss", opened(t, lost(t, d, way{}), x), left)
		}
	}
}

// Behind a cut other records are laid where the elder ones were, and nothing of these comes back.
func TestRecordsBehindACut(t *testing.T) {
	x := api.Extent{At: 0, N: 14}
	row := rowOf(t, 2, 1, 3, 1, 2)
	for seq := range len(row) + 1 {
		d := zeros(14).with(2, blocksOf(row...)).device(t)
		l := opened(t, d, x)
		ends(t, "Cut", l.Cut(seq), api.OK)
		next := []api.Record{made(t, l.Head(), api.Record{Kind: api.RLead, Epoch: 5, Site: 1})}
		next = append(next, made(t, headOf(next...), api.Record{Kind: api.RDelete, Path: "b"}))
		appends(t, "others", l, 2, api.OK, next...)
		all := append(row[:seq:seq], next...)
		want := state{records: all, synced: seq, room: 12 - len(blocksOf(all...))/512}
		tells(t, "others", l, want)
		ends(t, "Sync", l.Sync(), api.OK)
		want.synced = len(all)
		holds(t, "others", d, zeros(14).with(2, blocksOf(all...)), 0)
		tells(t, "anew", opened(t, lost(t, d, way{}), x), want)
	}
}

// A cut syncs the device, so that what is left of records that were not synced lasts.
func TestACutOfWhatIsNotSynced(t *testing.T) {
	row := rowOf(t, 2, 1, 3, 1, 2)
	x := api.Extent{At: 0, N: 14}
	for synced := range len(row) {
		for seq := range len(row) + 1 {
			d := zeros(14).with(2, blocksOf(row[:synced]...)).device(t)
			l := opened(t, d, x)
			appends(t, "the others", l, len(row)-synced, api.OK, row[synced:]...)
			ends(t, "Cut", l.Cut(seq), api.OK)
			want := state{records: row[:seq], synced: seq, room: 12 - len(blocksOf(row[:seq]...))/512}
			if seq == len(row) {
				want.synced = synced
			}
			tells(t, "cut", l, want)
			if seq < len(row) {
				holds(t, "cut", d, zeros(14).with(2, blocksOf(row[:seq]...)), 0)
				tells(t, "behind a loss", opened(t, lost(t, d, way{}), x), want)
			}
		}
	}
}

func TestCutOfADeviceThatIsDown(t *testing.T) {
	row := rowOf(t, 2, 1)
	d := zeros(6).with(2, blocksOf(row...)).device(t)
	l := opened(t, d, api.Extent{At: 0, N: 6})
	lost(t, d, way{})
	ends(t, "of Len", l.Cut(2), api.OK)
	ends(t, "of 1", l.Cut(1), api.ErrDown)
	ends(t, "of 0", l.Cut(0), api.ErrDown)
	ends(t, "beyond", l.Cut(3), api.ErrRange)
	tells(t, "down", l, state{records: row, synced: 2, room: 2})
}

func TestLossesWithinCut(t *testing.T) {
	x := api.Extent{At: 1, N: 12}
	for _, row := range rows(t) {
		m := zeros(14).with(1, vowed(7, 2)).with(3, blocksOf(row...))
		for seq := range len(row) {
			cut := func(l *log.Log) api.Errno { return l.Cut(seq) }
			losses(t, working(t, m, x, cut), func(done bool, d *disk.Disk) {
				l := opened(t, d, x)
				n := l.Len()
				if n != seq && (done || n != len(row)) {
					t.Errorf("%d records are there, of %d, behind a cut of %d", n, len(row), seq)
				}
				settled(t, d, l, row[:n], x, 7)
			})
		}
	}
}
