package store_test

import (
	"bytes"
	"crypto/sha256"
	"encoding/binary"
	"hash/crc32"
	"slices"
	"testing"

	"saltern/api"
	"saltern/disk"
	"saltern/pack"
	"saltern/store"
)

// chance is numbers without a pattern, always the same ones.
type chance uint64

func (c *chance) below(n int) int {
	*c = *c*6364136223846793005 + 1442695040888963407
	return int(uint64(*c)>>33) % n
}

// row is n bytes without a pattern.
func (c *chance) row(n int) []byte {
	b := make([]byte, n)
	for i := range b {
		b[i] = byte(c.below(256))
	}
	return b
}

// wild is a chunk that fills so many blocks, 8 at most, and is another for each seed.
func wild(blocks, seed int) []byte {
	c := chance(seed)
	return c.row(blocks*512 - 47) // a head, and a code that has 3 bytes more than the chunk
}

// greatest is a chunk of as many bytes, and of as many blocks, as there may be: 9.
func greatest(seed int) []byte {
	c := chance(seed)
	return c.row(4096)
}

func digest(b []byte) api.Digest { return sha256.Sum256(b) }

// rising are the digests of chunks, by their bytes.
func rising(chunks ...[]byte) []api.Digest {
	var l []api.Digest
	for _, b := range chunks {
		l = append(l, digest(b))
	}
	slices.SortFunc(l, func(a, b api.Digest) int { return bytes.Compare(a[:], b[:]) })
	return l
}

// image is what a device's blocks hold.
type image [][]byte

func zeros(n int) image {
	img := make(image, n)
	for i := range img {
		img[i] = make([]byte, 512)
	}
	return img
}

// with is an image with bytes from a block on.
func (m image) with(at int, b []byte) image {
	next := slices.Clone(m)
	for p := range slices.Chunk(b, 512) {
		next[at] = append(slices.Clone(p), make([]byte, 512-len(p))...)
		at++
	}
	return next
}

// rotten is an image of which a byte has rotted.
func (m image) rotten(i, at int, mask byte) image {
	b := bytes.Clone(m[i])
	b[at] ^= mask
	return m.with(i, b)
}

func alike(a, b image) bool { return slices.EqualFunc(a, b, bytes.Equal) }

// device is one that holds an image.
func (m image) device(t *testing.T) *disk.Disk {
	t.Helper()
	d, e := disk.New(len(m))
	if e != api.OK {
		t.Fatalf("New(%d): %d", len(m), e)
	}
	empty := make([]byte, 512)
	for i, b := range m {
		if bytes.Equal(b, empty) {
			continue
		}
		if e := d.Write(i, b); e != api.OK {
			t.Fatalf("Write(%d): %d", i, e)
		}
	}
	if _, e := d.Sync(); e != api.OK {
		t.Fatalf("Sync: %d", e)
	}
	return d
}

// held is the image of a device.
func held(t *testing.T, d *disk.Disk) image {
	t.Helper()
	var m image
	for i := range d.Blocks() {
		b, e := d.Read(i)
		if e != api.OK {
			t.Fatalf("Read(%d): %d", i, e)
		}
		m = append(m, b)
	}
	return m
}

// once holds what was packed, for the tests ask for the same blocks again and again.
var once = map[string][]byte{}

// packed are a chunk's blocks.
func packed(t *testing.T, chunk []byte) []byte {
	t.Helper()
	if b, ok := once[string(chunk)]; ok {
		return bytes.Clone(b)
	}
	b, e := pack.Bytes(chunk)
	if e != api.OK {
		t.Fatalf("Bytes of %d bytes: %d", len(chunk), e)
	}
	once[string(chunk)] = b
	return bytes.Clone(b)
}

// stored are a chunk's blocks with a code that is not packed, were it shorter or not.
func stored(chunk []byte) []byte {
	code := slices.Concat([]byte{0}, binary.AppendUvarint(nil, uint64(len(chunk))), chunk)
	b := head("SCHK", len(chunk), len(code), digest(chunk))[:40]
	b = binary.LittleEndian.AppendUint32(b, crc32.Checksum(slices.Concat(b, code), crc32.MakeTable(crc32.Castagnoli)))
	b = append(b, code...)
	for len(b)%512 != 0 {
		b = append(b, 0)
	}
	return b
}

// claimed are blocks whose head claims them.
func claimed(blocks []byte) []byte {
	b := slices.Clone(blocks)
	b[3] = 'X'
	return b
}

// head is 44 bytes that say so.
func head(mark string, chunk, code int, d api.Digest) []byte {
	b := []byte(mark)
	b = binary.LittleEndian.AppendUint16(b, uint16(chunk))
	b = binary.LittleEndian.AppendUint16(b, uint16(code))
	b = append(b, d[:]...)
	return append(b, 1, 2, 3, 4)
}

// sly is a chunk of so many blocks, each of which, but the first, begins as a head of another digest.
func sly(blocks, seed int) []byte {
	b := wild(blocks, seed)
	for k := 1; k < blocks; k++ {
		mark := []string{"SCHK", "SCHX"}[k%2]
		copy(b[k*512-47:], head(mark, 100, 100+600*(k%2), digest([]byte{byte(k)})))
	}
	return b
}

// opened is a store of some blocks.
func opened(t *testing.T, d *disk.Disk, x api.Extent) *store.Store {
	t.Helper()
	s, e := store.Open(d, x)
	if s == nil || e != api.OK {
		t.Fatalf("Open(%v): %v, %d", x, s, e)
	}
	return s
}

// fresh is a device of n zero blocks with a store of all of them.
func fresh(t *testing.T, n int) (*disk.Disk, *store.Store) {
	t.Helper()
	d := zeros(n).device(t)
	return d, opened(t, d, api.Extent{At: 0, N: n})
}

func put(t *testing.T, s *store.Store, b []byte) api.Digest {
	t.Helper()
	d, e := s.Put(b)
	if d != digest(b) || e != api.OK {
		t.Fatalf("Put of %d bytes: %x, %d, not %x", len(b), d, e, digest(b))
	}
	return d
}

// putFails asks for an error, and for nothing else.
func putFails(t *testing.T, what string, s *store.Store, b []byte, want api.Errno) {
	t.Helper()
	if d, e := s.Put(b); d != (api.Digest{}) || e != want {
		t.Errorf("%s: Put: %x, %d, not %d", what, d, e, want)
	}
}

func got(t *testing.T, what string, s *store.Store, b []byte) {
	t.Helper()
	if c, e := s.Get(digest(b)); !bytes.Equal(c, b) || e != api.OK {
		t.Errorf("%s: Get: %d bytes, %d, not the %d that were put", what, len(c), e, len(b))
	}
}

func getFails(t *testing.T, what string, s *store.Store, d api.Digest, want api.Errno) {
	t.Helper()
	if c, e := s.Get(d); len(c) != 0 || e != want {
		t.Errorf("%s: Get: %d bytes, %d, not %d", what, len(c), e, want)
	}
}

func kept(t *testing.T, s *store.Store, want int, l ...api.Digest) {
	t.Helper()
	if n, e := s.Keep(l...); n != want || e != api.OK {
		t.Fatalf("Keep: %d, %d, not %d", n, e, want)
	}
}

func scrubbed(t *testing.T, what string, s *store.Store, want []api.Digest) {
	t.Helper()
	if l, e := s.Scrub(); !slices.Equal(l, want) || e != api.OK {
		t.Errorf("%s: Scrub: %x, %d, not %x", what, l, e, want)
	}
}

func rotted(t *testing.T, d *disk.Disk, i, at int, mask byte) {
	t.Helper()
	if e := d.Rot(i, at, mask); e != api.OK {
		t.Fatalf("Rot(%d, %d): %d", i, at, e)
	}
}

func fused(t *testing.T, d *disk.Disk, n int) {
	t.Helper()
	if e := d.Fuse(n); e != api.OK {
		t.Fatalf("Fuse(%d): %d", n, e)
	}
}

func lost(t *testing.T, d *disk.Disk, w way) *disk.Disk {
	t.Helper()
	x, e := d.Lose(w.keep, w.torn, w.at)
	if e != api.OK {
		t.Fatalf("Lose: %d", e)
	}
	return x
}

// tells asks that a store tells these digests, and so many free blocks.
func tells(t *testing.T, what string, s *store.Store, l []api.Digest, free int) {
	t.Helper()
	if told := s.List(); !slices.Equal(told, l) {
		t.Errorf("%s: List: %x, not %x", what, told, l)
	}
	for _, d := range l {
		if !s.Has(d) {
			t.Errorf("%s: Has(%x): false", what, d)
		}
	}
	if s.Has(digest([]byte("that nobody put"))) {
		t.Errorf("%s: what nobody put is there", what)
	}
	if n := s.Free(); n != free {
		t.Errorf("%s: Free: %d, not %d", what, n, free)
	}
}

// way is one to lose power.
type way struct {
	keep []bool
	torn int
	at   int
}

// keeps are all choices of a few open writes, and many of more.
func keeps(open int) [][]bool {
	var l [][]bool
	if open <= 4 {
		for set := range 1 << open {
			l = append(l, bools(open, func(k int) bool { return set>>k&1 == 1 }))
		}
		return l
	}
	for n := range open + 1 {
		l = append(l, bools(open, func(k int) bool { return k < n }))
		l = append(l, bools(open, func(k int) bool { return k == n }))
		l = append(l, bools(open, func(k int) bool { return k != n }))
	}
	return append(l, bools(open, func(k int) bool { return k%2 == 0 }), bools(open, func(k int) bool { return k%3 > 0 }))
}

func bools(n int, is func(k int) bool) []bool {
	l := make([]bool, n)
	for k := range l {
		l[k] = is(k)
	}
	return l
}

// ways are those to lose so many open writes: each one kept, dropped and torn.
func ways(open int) []way {
	all := keeps(open)
	var l []way
	for _, keep := range all {
		l = append(l, way{keep, -1, 0})
	}
	if open > 4 {
		all = [][]bool{nil, slices.Repeat([]bool{true}, open), bools(open, func(k int) bool { return k%2 == 1 })}
	}
	for _, keep := range all {
		for torn := range open {
			for _, at := range []int{0, 1, 3, 4, 5, 6, 7, 8, 9, 30, 44, 45, 300, 511, 512} {
				l = append(l, way{keep, torn, at})
			}
		}
	}
	return l
}
