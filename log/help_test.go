package log_test

import (
	"bytes"
	"crypto/sha256"
	"encoding/binary"
	"slices"
	"strings"
	"testing"

	"saltern/api"
	"saltern/disk"
	"saltern/log"
	"saltern/record"
)

// chance is numbers without a pattern, always the same ones.
type chance uint64

func (c *chance) below(n int) int {
	*c = *c*6364136223846793005 + 1442695040888963407
	return int(uint64(*c)>>33) % n
}

// row is n bytes without a pattern.
func (c *chance) row(n int) []byte {
	b := make([]byte, n)
	for i := range b {
		b[i] = byte(c.below(256))
	}
	return b
}

// made is the record that follows a head.
func made(t *testing.T, h api.Head, r api.Record) api.Record {
	t.Helper()
	r, e := record.Make(h, r)
	if e != api.OK {
		t.Fatalf("Make behind %v: %d", h, e)
	}
	return r
}

// pieces are n, with digests that are told apart.
func pieces(n, seed int) []api.Piece {
	l := make([]api.Piece, n)
	for i := range l {
		l[i] = api.Piece{D: api.Digest{byte(i), byte(i >> 8), byte(seed), 31: 9}, N: 1 + i%100}
	}
	return l
}

// long is a record that follows a head, and has n bytes, 39 at least.
func long(t *testing.T, h api.Head, n int) api.Record {
	t.Helper()
	for k := range 4097 {
		r := made(t, h, api.Record{Kind: api.RPut, Path: "p", Pieces: pieces(k, n)})
		path := 1 + n - len(wordedBytes(r))
		if path < 1 {
			break
		}
		if path <= 255 {
			return made(t, h, api.Record{Kind: api.RPut, Path: strings.Repeat("p", path), Pieces: pieces(k, n)})
		}
	}
	t.Fatalf("no record of %d bytes", n)
	return api.Record{}
}

// wide is a record that follows a head, and has n blocks, the last one of which is not full.
func wide(t *testing.T, h api.Head, n int) api.Record {
	t.Helper()
	return long(t, h, 512*n-40-100)
}

// rowOf are records behind the zero head: one that leads with an epoch, and others with so many blocks.
func rowOf(t *testing.T, epoch int, blocks ...int) []api.Record {
	t.Helper()
	l := []api.Record{made(t, api.Head{}, api.Record{Kind: api.RLead, Epoch: epoch})}
	for _, n := range blocks {
		l = append(l, wide(t, headOf(l...), n))
	}
	return l
}

// headOf is the last one's head, by the chapter's words; of none the zero one.
func headOf(l ...api.Record) api.Head {
	if len(l) == 0 {
		return api.Head{}
	}
	r := l[len(l)-1]
	return api.Head{Seq: r.Seq, Epoch: r.Epoch, Chain: sha256.Sum256(wordedBytes(r))}
}

// wordedBytes are a record's.
func wordedBytes(r api.Record) []byte {
	b := []byte{'R', byte(r.Kind)}
	b = binary.AppendUvarint(b, uint64(r.Seq))
	b = binary.AppendUvarint(b, uint64(r.Epoch))
	b = append(b, r.Prev[:]...)
	if r.Kind == api.RLead {
		return append(b, byte(r.Site))
	}
	b = append(b, byte(len(r.Path)))
	b = append(b, r.Path...)
	if r.Kind == api.RPut {
		b = binary.AppendUvarint(b, uint64(len(r.Pieces)))
		for _, p := range r.Pieces {
			b = binary.AppendUvarint(b, uint64(p.N))
			b = append(b, p.D[:]...)
		}
	}
	return b
}

// framed are bytes as a record's blocks hold them, be they one's or not.
func framed(content []byte) []byte {
	b := binary.LittleEndian.AppendUint32([]byte("SLOG"), uint32(len(content)))
	sum := sha256.Sum256(content)
	b = append(append(b, sum[:]...), content...)
	for len(b)%512 != 0 {
		b = append(b, 0)
	}
	return b
}

// blocksOf are the blocks of records, one behind the other.
func blocksOf(l ...api.Record) []byte {
	var b []byte
	for _, r := range l {
		b = append(b, framed(wordedBytes(r))...)
	}
	return b
}

// vowed is a vow's block.
func vowed(epoch uint32, count uint64) []byte {
	b := binary.LittleEndian.AppendUint32([]byte("SVOW"), epoch)
	b = binary.LittleEndian.AppendUint64(b, count)
	sum := sha256.Sum256(b)
	return append(append(b, sum[:]...), make([]byte, 464)...)
}

// image is what a device's blocks hold.
type image [][]byte

func zeros(n int) image {
	m := make(image, n)
	for i := range m {
		m[i] = make([]byte, 512)
	}
	return m
}

// with is an image with bytes from a block on.
func (m image) with(at int, b []byte) image {
	next := slices.Clone(m)
	for p := range slices.Chunk(b, 512) {
		next[at] = append(slices.Clone(p), make([]byte, 512-len(p))...)
		at++
	}
	return next
}

// rotten is an image of which a byte has rotted.
func (m image) rotten(i, at int, mask byte) image {
	b := bytes.Clone(m[i])
	b[at] ^= mask
	return m.with(i, b)
}

func alike(a, b image) bool { return slices.EqualFunc(a, b, bytes.Equal) }

// device is one that holds an image.
func (m image) device(t *testing.T) *disk.Disk {
	t.Helper()
	d, e := disk.New(len(m))
	if e != api.OK {
		t.Fatalf("New(%d): %d", len(m), e)
	}
	empty := make([]byte, 512)
	for i, b := range m {
		if bytes.Equal(b, empty) {
			continue
		}
		if e := d.Write(i, b); e != api.OK {
			t.Fatalf("Write(%d): %d", i, e)
		}
	}
	if _, e := d.Sync(); e != api.OK {
		t.Fatalf("Sync: %d", e)
	}
	return d
}

// held is the image of a device.
func held(t *testing.T, d *disk.Disk) image {
	t.Helper()
	var m image
	for i := range d.Blocks() {
		b, e := d.Read(i)
		if e != api.OK {
			t.Fatalf("Read(%d): %d", i, e)
		}
		m = append(m, b)
	}
	return m
}

// holds asks that a device holds an image, and that so many writes are open.
func holds(t *testing.T, what string, d *disk.Disk, want image, open int) {
	t.Helper()
	now := held(t, d)
	for i := range now {
		if !bytes.Equal(now[i], want[i]) {
			t.Errorf("%s: block %d: %.60x, not %.60x", what, i, now[i], want[i])
		}
	}
	if d.Open() != open {
		t.Errorf("%s: %d writes are open, not %d", what, d.Open(), open)
	}
}

func opened(t *testing.T, d *disk.Disk, x api.Extent) *log.Log {
	t.Helper()
	l, e := log.Open(d, x)
	if l == nil || e != api.OK {
		t.Fatalf("Open(%v): %v, %d", x, l, e)
	}
	return l
}

// fresh is a device of n zero blocks with a log of all of them.
func fresh(t *testing.T, n int) (*disk.Disk, *log.Log) {
	t.Helper()
	d := zeros(n).device(t)
	return d, opened(t, d, api.Extent{At: 0, N: n})
}

// appends asks that so many of some records are laid.
func appends(t *testing.T, what string, l *log.Log, want int, wantE api.Errno, rs ...api.Record) {
	t.Helper()
	if n, e := l.Append(rs...); n != want || e != wantE {
		t.Errorf("%s: Append: %d, %d, not %d, %d", what, n, e, want, wantE)
	}
}

// ends asks that a call ended with an error.
func ends(t *testing.T, what string, e, want api.Errno) {
	t.Helper()
	if e != want {
		t.Errorf("%s: %d, not %d", what, e, want)
	}
}

func fused(t *testing.T, d *disk.Disk, n int) {
	t.Helper()
	if e := d.Fuse(n); e != api.OK {
		t.Fatalf("Fuse(%d): %d", n, e)
	}
}

func lost(t *testing.T, d *disk.Disk, w way) *disk.Disk {
	t.Helper()
	x, e := d.Lose(w.keep, w.torn, w.at)
	if e != api.OK {
		t.Fatalf("Lose: %d", e)
	}
	return x
}

// state is all that a log tells.
type state struct {
	records []api.Record
	synced  int
	room    int
	promise int
	broken  bool
}

func same(a, b []api.Record) bool { return slices.EqualFunc(a, b, record.Same) }

// tells asks that a log tells just that.
func tells(t *testing.T, what string, l *log.Log, s state) {
	t.Helper()
	n := len(s.records)
	if l.Len() != n || l.Synced() != s.synced || l.Room() != s.room || l.Promise() != s.promise || l.Broken() != s.broken {
		t.Errorf("%s: Len %d, Synced %d, Room %d, Promise %d, Broken %t, not %d, %d, %d, %d, %t", what,
			l.Len(), l.Synced(), l.Room(), l.Promise(), l.Broken(), n, s.synced, s.room, s.promise, s.broken)
	}
	if !same(l.Records(), s.records) {
		t.Errorf("%s: %d other records than the %d that should be there", what, len(l.Records()), n)
	}
	if l.Head() != headOf(s.records...) {
		t.Errorf("%s: Head: %v", what, l.Head())
	}
	for seq := range n + 1 {
		if h, e := l.HeadAt(seq); h != headOf(s.records[:seq]...) || e != api.OK {
			t.Errorf("%s: HeadAt(%d): %v, %d", what, seq, h, e)
		}
		if seq == 0 {
			continue
		}
		if r, e := l.At(seq); !record.Same(r, s.records[seq-1]) || e != api.OK {
			t.Errorf("%s: At(%d): Seq %d, %d", what, seq, r.Seq, e)
		}
	}
	for _, seq := range []int{0, -1, n + 1} {
		if r, e := l.At(seq); !record.Same(r, api.Record{}) || e != api.ErrRange {
			t.Errorf("%s: At(%d): Seq %d, %d", what, seq, r.Seq, e)
		}
		if seq == 0 {
			continue
		}
		if h, e := l.HeadAt(seq); h != (api.Head{}) || e != api.ErrRange {
			t.Errorf("%s: HeadAt(%d): %v, %d", what, seq, h, e)
		}
	}
}

// there is what an image has, by the chapter's words.
type there struct {
	records []api.Record
	end     int
	broken  bool
	promise uint32
	count   uint64
}

// lookedAt reads an image; of the layers below it leans on record alone.
func lookedAt(m image, x api.Extent) there {
	v := there{end: x.At + 2}
	vows := 0
	for i := range 2 {
		b := m[x.At+i]
		epoch, count := binary.LittleEndian.Uint32(b[4:]), binary.LittleEndian.Uint64(b[8:])
		if epoch <= 1<<30 && bytes.Equal(b, vowed(epoch, count)) {
			if vows == 0 || count > v.count {
				v.promise, v.count = epoch, count
			}
			vows++
		}
	}
	end := x.At + x.N
	for v.end < end && string(m[v.end][:4]) == "SLOG" {
		all := slices.Concat(m[v.end:end]...)
		n := int(binary.LittleEndian.Uint32(all[4:]))
		if n > len(all)-40 {
			break
		}
		r, e := record.Parse(all[40 : 40+n])
		if e != api.OK || !bytes.HasPrefix(all, framed(all[40:40+n])) {
			break
		}
		if _, e := record.Next(headOf(v.records...), r); e != api.OK {
			v.broken = true
			break
		}
		v.records = append(v.records, r)
		v.end += (40 + n + 511) / 512
	}
	return v
}

// state is what a log of it tells behind Open.
func (v there) state(x api.Extent) state {
	return state{v.records, len(v.records), x.At + x.N - v.end, int(v.promise), v.broken}
}
