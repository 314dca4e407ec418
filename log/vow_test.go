package log_test

import (
	"bytes"
	"math"
	"testing"

	"saltern/api"
	"saltern/disk"
	"saltern/log"
)

// P14.1, P14.3, P14.8

// promises asks which epoch the log of an image has promised, and which vow a further one is.
func promises(t *testing.T, what string, m image, x api.Extent, want int, next uint64) {
	t.Helper()
	d := m.device(t)
	fused(t, d, 0)
	l := opened(t, d, x)
	tells(t, what, l, state{room: x.N - 2, promise: want})
	if want < 1<<30 {
		vow := func(l *log.Log) api.Errno { return l.Vow(want + 1) }
		does(t, what, m, working(t, m, x, vow), settling(x.At+int(next%2), vowed(uint32(want+1), next)))
	}
}

func TestThePromise(t *testing.T) {
	none := make([]byte, 512)
	for _, x := range []api.Extent{{At: 0, N: 4}, {At: 1, N: 3}, {At: 3, N: 3}} {
		for _, c := range []struct {
			what string
			a, b []byte
			want int
			next uint64
		}{
			{"no vow", none, none, 0, 1},
			{"the first alone", vowed(5, 2), none, 5, 3},
			{"the second alone", none, vowed(5, 1), 5, 2},
			{"the first alone, of an odd count", vowed(5, 9), none, 5, 10},
			{"the second alone, of an even count", none, vowed(5, 8), 5, 9},
			{"the first is greater", vowed(6, 2), vowed(5, 1), 6, 3},
			{"the second is greater", vowed(5, 2), vowed(6, 3), 6, 4},
			{"the count counts, not the epoch", vowed(5, 4), vowed(9, 3), 5, 5},
			{"the count counts, not the epoch, the other way", vowed(9, 2), vowed(5, 3), 5, 4},
			{"alike counts", vowed(5, 3), vowed(9, 3), 5, 4},
			{"alike counts, the other way", vowed(9, 4), vowed(5, 4), 9, 5},
			{"alike vows", vowed(7, 7), vowed(7, 7), 7, 8},
			{"a count of 0", none, vowed(5, 0), 5, 1},
			{"counts of 0", vowed(3, 0), vowed(5, 0), 3, 1},
			{"epoch 0", vowed(0, 6), vowed(5, 5), 0, 7},
			{"the greatest epoch", vowed(1<<30, 6), vowed(5, 5), 1 << 30, 7},
			{"one beyond it", vowed(1<<30+1, 6), vowed(5, 5), 5, 6},
			{"far beyond it", vowed(math.MaxUint32, 6), vowed(5, 5), 5, 6},
			{"an epoch of 2^31", vowed(1<<31, 6), none, 0, 1},
			{"great counts", vowed(5, 1<<63), vowed(6, 1<<63-1), 5, 1<<63 + 1},
			{"greater ones", vowed(5, 1<<64-2), vowed(6, 1<<32), 5, 1<<64 - 1},
			{"the greatest one", vowed(5, 3), vowed(6, 1<<64-2), 6, 1<<64 - 1},
			{"a byte behind it", append(vowed(6, 2)[:511:511], 1), vowed(5, 1), 5, 2},
			{"a byte right behind it", append(append(vowed(6, 2)[:48:48], 1), vowed(6, 2)[49:]...), vowed(5, 1), 5, 2},
			{"another mark", append([]byte("SLOG"), vowed(6, 2)[4:]...), vowed(5, 1), 5, 2},
			{"the sum of another one", append(vowed(6, 2)[:16:16], vowed(6, 4)[16:]...), vowed(5, 1), 5, 2},
			{"no sum", append(vowed(6, 2)[:16:16], none[16:]...), vowed(5, 1), 5, 2},
			{"neither is one", []byte("SVOW"), bytes.Repeat([]byte{7}, 512), 0, 1},
		} {
			m := zeros(8).with(x.At, c.a).with(x.At+1, c.b)
			promises(t, c.what, m, x, c.want, c.next)
			if x.At > 0 {
				promises(t, c.what+", one outside", m.with(x.At-1, vowed(20, 99)), x, c.want, c.next)
			}
		}
	}
}

// Whatever bit of a vow is turned, it is none.
func TestEachBitOfAVow(t *testing.T) {
	for i, m := range []image{zeros(4).with(0, vowed(6, 2)).with(1, vowed(5, 1)), zeros(4).with(1, vowed(6, 3)).with(0, vowed(5, 2))} {
		for at := range 512 {
			for bit := range 8 {
				d := m.rotten(i, at, 1<<bit).device(t)
				if p := opened(t, d, api.Extent{At: 0, N: 4}).Promise(); p != 5 {
					t.Fatalf("block %d, byte %d, bit %d: %d", i, at, bit, p)
				}
			}
		}
	}
}

func TestVowsInTurns(t *testing.T) {
	x := api.Extent{At: 2, N: 4}
	m := zeros(8)
	d := m.device(t)
	l := opened(t, d, x)
	for k, epoch := range []int{1, 2, 7, 8, 300, 1<<30 - 1, 1 << 30} {
		count := k + 1
		ends(t, "Vow", l.Vow(epoch), api.OK)
		m = m.with(2+count%2, vowed(uint32(epoch), uint64(count)))
		holds(t, "a vow", d, m, 0)
		tells(t, "a vow", l, state{room: 2, promise: epoch})
		d = lost(t, d, way{})
		l = opened(t, d, x)
		tells(t, "a vow, anew", l, state{room: 2, promise: epoch})
	}
}

func TestAVowOfThePromiseDoesNothing(t *testing.T) {
	for _, epoch := range []int{0, 1, 7, 1 << 30} {
		d := zeros(4).device(t)
		l := opened(t, d, api.Extent{At: 0, N: 4})
		ends(t, "Vow", l.Vow(epoch), api.OK)
		r := made(t, api.Head{}, api.Record{Kind: api.RLead, Epoch: 1})
		appends(t, "one", l, 1, api.OK, r)
		was, want := held(t, d), state{records: []api.Record{r}, room: 1, promise: epoch}
		fused(t, d, 0)
		ends(t, "again", l.Vow(epoch), api.OK)
		holds(t, "again", d, was, 1)
		tells(t, "again", l, want)
		lost(t, d, way{})
		ends(t, "down", l.Vow(epoch), api.OK)
		tells(t, "down", l, want)
	}
}

func TestWrongVows(t *testing.T) {
	for _, first := range []int{0, 1, 9, 1 << 30} {
		d, l := fresh(t, 4)
		ends(t, "Vow", l.Vow(first), api.OK)
		was := held(t, d)
		for _, dark := range []bool{false, true} {
			if dark {
				fused(t, d, 0)
			}
			for _, epoch := range []int{first - 1, -1, 1<<30 + 1, 1 << 31, 1 << 32, 1<<32 + 10, math.MaxInt, math.MinInt, first - 1<<32} {
				ends(t, "a wrong one", l.Vow(epoch), api.ErrVow)
			}
		}
		holds(t, "wrong ones", d, was, 0)
		tells(t, "wrong ones", l, state{room: 2, promise: first})
		lost(t, d, way{})
		ends(t, "a wrong one, down", l.Vow(first-1), api.ErrVow)
		if first < 1<<30 {
			ends(t, "a right one, down", l.Vow(first+1), api.ErrDown)
		}
		tells(t, "down", l, state{room: 2, promise: first})
	}
}

// A count that no log reaches is gone beyond without a panic.
func TestAVowBehindTheGreatestCount(t *testing.T) {
	d := zeros(4).with(1, vowed(5, 1<<64-1)).device(t)
	l := opened(t, d, api.Extent{At: 0, N: 4})
	ends(t, "Vow", l.Vow(6), api.OK)
	tells(t, "a vow", l, state{room: 2, promise: 6})
	ends(t, "a further one", l.Vow(7), api.OK)
	tells(t, "a further one", l, state{room: 2, promise: 7})
}

// A vow syncs the device, and so all records.
func TestAVowSyncs(t *testing.T) {
	d, l := fresh(t, 8)
	row := rowOf(t, 2, 1, 2)
	appends(t, "three", l, 3, api.OK, row...)
	tells(t, "laid", l, state{records: row, room: 2})
	ends(t, "Vow", l.Vow(2), api.OK)
	tells(t, "a vow", l, state{records: row, synced: 3, room: 2, promise: 2})
	tells(t, "anew", opened(t, lost(t, d, way{}), api.Extent{At: 0, N: 8}), state{records: row, synced: 3, room: 2, promise: 2})
}

// A vow that a device's error ended is made anew, with the same count.
func TestAVowBehindADevicesError(t *testing.T) {
	d, l := fresh(t, 4)
	ends(t, "Vow", l.Vow(5), api.OK)
	for n := range 2 {
		fused(t, d, n)
		ends(t, "dark", l.Vow(6), api.ErrDark)
		tells(t, "dark", l, state{room: 2, promise: 5})
	}
	fused(t, d, -1)
	ends(t, "Vow", l.Vow(7), api.OK)
	holds(t, "anew", d, zeros(4).with(0, vowed(7, 2)).with(1, vowed(5, 1)), 0)
}

func TestLossesWithinVow(t *testing.T) {
	row := rowOf(t, 2, 1, 2)
	x := api.Extent{At: 1, N: 8}
	plain := zeros(10).with(3, blocksOf(row...))
	for _, m := range []image{
		plain,
		plain.with(2, vowed(4, 1)),
		plain.with(1, vowed(4, 2)).with(2, vowed(3, 1)),
		plain.with(1, vowed(4, 4)).with(2, vowed(255, 5)),
	} {
		elder := int(lookedAt(m, x).promise)
		for _, epoch := range []int{elder + 1, 256, 1 << 20, 1 << 30} {
			vow := func(l *log.Log) api.Errno { return l.Vow(epoch) }
			losses(t, working(t, m, x, vow), func(done bool, d *disk.Disk) {
				fused(t, d, 0)
				l := opened(t, d, x)
				p := l.Promise()
				if p != epoch && (done || p != elder) {
					t.Errorf("the promise is %d, behind %d and %d", p, elder, epoch)
				}
				tells(t, "behind a loss", l, state{records: row, synced: 3, room: 2, promise: p})
			})
		}
	}
}

// Vows one behind the other, with a loss within many of them: the promise never falls.
func TestPromisesNeverFall(t *testing.T) {
	c := chance(8)
	x := api.Extent{At: 0, N: 6}
	d := zeros(6).device(t)
	lead := made(t, api.Head{}, api.Record{Kind: api.RLead, Epoch: 1})
	least, risen := 0, 0
	for range 3000 {
		l := opened(t, d, x)
		if l.Promise() < least {
			t.Fatalf("the promise is %d, behind %d", l.Promise(), least)
		}
		if l.Promise() > least {
			risen++
		}
		least = l.Promise()
		if l.Len() == 0 {
			appends(t, "one", l, 1, api.OK, lead)
		} else {
			ends(t, "Cut", l.Cut(0), api.OK)
		}
		next := least + 1 + c.below(300)
		fused(t, d, c.below(4))
		if l.Vow(next) == api.OK {
			least = next
		}
		keep := []bool{c.below(2) == 0, c.below(2) == 0}
		d = lost(t, d, way{keep, c.below(3) - 1, c.below(600)})
	}
	if risen < 100 {
		t.Errorf("%d vows outlived a loss within them", risen)
	}
}
