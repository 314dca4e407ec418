package pack_test

import (
	"bytes"
	"crypto/sha256"
	"encoding/binary"
	"slices"
	"testing"

	"saltern/api"
	"saltern/pack"
)

// P11.4
func TestThereAndBack(t *testing.T) {
	for _, chunk := range manyChunks() {
		b := made(t, chunk)
		blocks, e := pack.Blocks(chunk)
		if e != api.OK || len(b) != 512*blocks {
			t.Errorf("Blocks of %d bytes: %d, %d", len(chunk), blocks, e)
		}
		for _, behind := range [][]byte{nil, {1}, pack.Erased(), b, wild(513), wild(10000)} {
			all := slices.Concat(b, behind)
			if got, n, e := pack.Read(all); !bytes.Equal(got, chunk) || n != blocks || e != api.OK {
				t.Errorf("%d bytes, %d behind: Read: %d bytes, %d, %d", len(chunk), len(behind), len(got), n, e)
			}
			heads(t, "there and back", all, sha256.Sum256(chunk), blocks)
		}
	}
}

// P11.4: each number of bytes.
func TestThereAndBackOfEachSize(t *testing.T) {
	row := wild(4096)
	for n := 1; n <= 4096; n += 1 + n/100 {
		reads(t, "each size", append(made(t, row[:n]), 7), row[:n])
	}
	reads(t, "the most bytes", append(made(t, row), 7), row)
}

// spoilable are chunks whose blocks are spoilt: one and many blocks, stored and packed, filled just or not.
func spoilable() [][]byte {
	c := chance(2)
	return [][]byte{[]byte("a"), wild(465), wild(466), wild(4096), c.row(300, 2), make([]byte, 4096)}
}

// ranges are the places that P11.5 names, of so many bytes: from, and up to.
func ranges(n int) [][2]int { return [][2]int{{0, 6}, {8, 44}, {44, n}} }

// spoilt asks that Read tells an error where bytes from a place on are others.
func spoilt(t *testing.T, b []byte, at int, by ...byte) {
	t.Helper()
	b = bytes.Clone(b)
	for i, c := range by {
		b[at+i] ^= c
	}
	if got, n, e := pack.Read(b); len(got) != 0 || n != 0 || e == api.OK {
		t.Errorf("%d bytes, %x at %d: %d bytes, %d, %d", len(b), by, at, len(got), n, e)
	}
}

// P11.5: the first and the last place of each range, one byte and four side by side, each value of one.
func TestSpoiltAtTheEdges(t *testing.T) {
	c := chance(8)
	for _, chunk := range spoilable() {
		b := made(t, chunk)
		for _, r := range ranges(len(b)) {
			for x := 1; x < 256; x++ {
				spoilt(t, b, r[0], byte(x))
				spoilt(t, b, r[1]-1, byte(x))
				by := c.row(4, 256)
				by[c.below(4)] = byte(x)
				spoilt(t, b, r[0], by...)
				spoilt(t, b, r[1]-4, by...)
			}
		}
	}
}

// P11.5: each place, up to four bytes from it on.
func TestSpoiltAtEachPlace(t *testing.T) {
	c := chance(9)
	for _, chunk := range spoilable() {
		b := made(t, chunk)
		for _, r := range ranges(len(b)) {
			for at := r[0]; at < r[1]; at++ {
				for n := 1; n <= min(4, r[1]-at); n++ {
					by := c.row(n, 256)
					by[0] |= 1
					spoilt(t, b, at, by...)
				}
			}
		}
	}
}

// P11.5: each bit, and both ends of four bytes with none between.
func TestSpoiltByBits(t *testing.T) {
	for _, chunk := range [][]byte{[]byte("a"), wild(466)} {
		b := made(t, chunk)
		for _, r := range ranges(len(b)) {
			for bit := 8 * r[0]; bit < 8*r[1]; bit++ {
				spoilt(t, b, bit/8, 1<<(bit%8))
				if bit/8+4 <= r[1] {
					spoilt(t, b, bit/8, 1<<(bit%8), 0, 0, 1<<(7-bit%8))
				}
			}
		}
	}
}

// P11.5: where digest and sum meet, some changes of both keep the sum right: the digest tells of them.
func TestSpoiltWhereTheSumDoesNotTell(t *testing.T) {
	met := 0
	for n := 1; n <= 40; n++ {
		b := made(t, wild(n))
		was := sumOf(b)
		for x := 1; x < 256; x++ {
			b[39] ^= byte(x)
			// Only the first three bytes of the sum stand within four of the digest's last one.
			if by := was ^ sumOf(b); by < 1<<24 {
				met++
				sum(b)
				refuses(t, "the sum is right", b, api.ErrDigest)
				binary.LittleEndian.PutUint32(b[40:], was)
			}
			b[39] ^= byte(x)
		}
		reads(t, "as it was", b, wild(n))
	}
	if met == 0 {
		t.Error("no such change")
	}
}

// P11.6: blocks that are spoilt and rightly summed anew are told with the digest that Head tells, or not at all.
func TestTrue(t *testing.T) {
	c := chance(10)
	read := 0
	for _, chunk := range spoilable() {
		whole := made(t, chunk)
		n := 44 + int(binary.LittleEndian.Uint16(whole[6:]))
		for range 400 {
			b := bytes.Clone(whole)
			for range c.below(3) {
				b[4+c.below(n-4)] ^= byte(c.below(256))
			}
			sum(b)
			read += isTrue(t, b)
		}
	}
	if read == 0 {
		t.Error("none is read")
	}
}

// P11.6: a head that says other numbers, each byte of both.
func TestTrueOfOtherNumbers(t *testing.T) {
	for _, chunk := range [][]byte{[]byte("a"), wild(466)} {
		whole := append(made(t, chunk), make([]byte, 4608)...)
		for at := 4; at < 8; at++ {
			for x := range 256 {
				b := bytes.Clone(whole)
				b[at] = byte(x)
				isTrue(t, b)
				sum(b)
				isTrue(t, b)
			}
		}
	}
}

// P11.6: other codes, each with the digest of what it is of, or of another row.
func TestTrueOfOtherCodes(t *testing.T) {
	c := chance(12)
	for range 200 {
		row := c.row(1+c.below(600), 1+c.below(256))
		other := c.row(len(row), 1+c.below(256))
		for _, s := range []said{saying(row, stored(row)), saying(row, literal(t, row)), saying(other, stored(row)), saying(row, literal(t, other))} {
			if got := isTrue(t, s.bytes()); got == 0 && sha256.Sum256(row) == s.digest && s.body[0] == 0 {
				t.Errorf("%d bytes, stored, are not read", len(row))
			}
		}
	}
}

// P11.6: any bytes behind a head's first four, of any number.
func TestTrueOfAnything(t *testing.T) {
	c := chance(13)
	for range 20000 {
		b := c.row(c.below(1200), 256)
		copy(b, "SCHK")
		if len(b) > 8 && c.below(4) > 0 {
			b[5], b[7] = 0, byte(c.below(3))
		}
		if len(b) >= 44 && c.below(2) == 0 {
			sum(b)
		}
		isTrue(t, b)
	}
}

// isTrue holds what Read tells against Head, and counts it if it is a chunk.
func isTrue(t *testing.T, b []byte) int {
	t.Helper()
	chunk, n, e := pack.Read(b)
	if e != api.OK {
		if len(chunk) != 0 || n != 0 {
			t.Errorf("%d bytes, %d beside an error", len(chunk), n)
		}
		return 0
	}
	heads(t, "what is read", b, sha256.Sum256(chunk), n)
	if len(chunk) < 1 || len(chunk) > 4096 || len(b) < 512*n {
		t.Errorf("%d bytes in %d blocks, of %d bytes", len(chunk), n, len(b))
	}
	return 1
}
