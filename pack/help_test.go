package pack_test

import (
	"bytes"
	"crypto/sha256"
	"encoding/binary"
	"encoding/hex"
	"hash/crc32"
	"slices"
	"testing"

	"saltern/api"
	"saltern/codec"
	"saltern/pack"
)

// chance is numbers without a pattern, always the same ones.
type chance uint64

func (c *chance) below(n int) int {
	*c = *c*6364136223846793005 + 1442695040888963407
	return int(uint64(*c)>>33) % n
}

// row is n bytes without a pattern, of so many different ones.
func (c *chance) row(n, kinds int) []byte {
	b := make([]byte, n)
	for i := range b {
		b[i] = byte(c.below(kinds))
	}
	return b
}

// wild is a chunk of n bytes that packing does not make shorter.
func wild(n int) []byte {
	c := chance(n)
	return c.row(n, 256)
}

// said is what blocks say, whether it is true or not.
type said struct {
	mark   string
	chunk  int
	code   int
	digest [32]byte
	body   []byte // what stands behind the head; bytes 0 fill its last block
}

// saying is what a chunk's blocks say, its code being this one.
func saying(chunk, code []byte) said {
	return said{"SCHK", len(chunk), len(code), sha256.Sum256(chunk), code}
}

// bytes are the blocks that say so, rightly summed as far as there are so many bytes of a code.
func (s said) bytes() []byte {
	b := []byte(s.mark)
	b = binary.LittleEndian.AppendUint16(b, uint16(s.chunk))
	b = binary.LittleEndian.AppendUint16(b, uint16(s.code))
	b = append(b, s.digest[:]...)
	b = append(b, 0, 0, 0, 0)
	b = append(b, s.body...)
	for len(b)%512 != 0 {
		b = append(b, 0)
	}
	sum(b)
	return b
}

// sumOf is the sum that blocks should have, by the number of bytes of a code that they say.
func sumOf(b []byte) uint32 {
	to := min(44+int(binary.LittleEndian.Uint16(b[6:])), len(b))
	return crc32.Checksum(slices.Concat(b[:40], b[44:to]), crc32.MakeTable(crc32.Castagnoli))
}

// sum sums blocks anew.
func sum(b []byte) { binary.LittleEndian.PutUint32(b[40:], sumOf(b)) }

// stored is a row's code that is not packed, whether packed it were shorter or not.
func stored(row []byte) []byte {
	return slices.Concat([]byte{0}, binary.AppendUvarint(nil, uint64(len(row))), row)
}

// literal is a row's code that is packed without copies, whether it were shorter in another form or not.
func literal(t *testing.T, row []byte) []byte {
	t.Helper()
	var l []api.Token
	for _, c := range row {
		l = append(l, api.Token{Len: 1, Lit: c})
	}
	b, e := codec.Pack(l...)
	if e != api.OK {
		t.Fatalf("Pack: %d", e)
	}
	return slices.Concat([]byte{1}, binary.AppendUvarint(nil, uint64(len(row))), b)
}

func coded(t *testing.T, chunk []byte) []byte {
	t.Helper()
	b, e := codec.Encode(chunk)
	if e != api.OK {
		t.Fatalf("Encode: %d", e)
	}
	return b
}

// worded are a chunk's blocks, by the chapter's words.
func worded(t *testing.T, chunk []byte) []byte {
	t.Helper()
	return saying(chunk, coded(t, chunk)).bytes()
}

// manyChunks are some of all kinds and sizes.
func manyChunks() [][]byte {
	l := [][]byte{[]byte("a"), {0}, {255}, []byte("ab"), []byte("SCHK"), bytes.Repeat([]byte("SCHK"), 128), pack.Erased()}
	c := chance(11)
	for _, n := range []int{1, 2, 3, 127, 128, 255, 256, 257, 464, 465, 466, 977, 978, 1000, 2047, 2048, 4095, 4096} {
		l = append(l, make([]byte, n), bytes.Repeat([]byte("a"), n), c.row(n, 256), c.row(n, 2), c.row(n, 30))
	}
	for range 20 {
		n := 1 + c.below(4096)
		l = append(l, c.row(n, 1+c.below(256)), bytes.Repeat(c.row(1+c.below(20), 256), 200))
	}
	return l
}

// raw is the bytes of a text of hexadecimal digits.
func raw(t *testing.T, text string) []byte {
	t.Helper()
	b, err := hex.DecodeString(text)
	if err != nil {
		t.Fatal(err)
	}
	return b
}

// made is Bytes, which has no error.
func made(t *testing.T, chunk []byte) []byte {
	t.Helper()
	b, e := pack.Bytes(chunk)
	if e != api.OK {
		t.Fatalf("Bytes of %d bytes: %d", len(chunk), e)
	}
	return b
}

// heads asks that Head tells this.
func heads(t *testing.T, what string, b []byte, d api.Digest, n int) {
	t.Helper()
	if got, m, e := pack.Head(b); got != d || m != n || e != api.OK {
		t.Errorf("%s: Head: %x, %d, %d, not %x, %d", what, got, m, e, d, n)
	}
}

// noHead asks that both Head and Read tell ErrPack and nothing else.
func noHead(t *testing.T, what string, b []byte) {
	t.Helper()
	if d, n, e := pack.Head(b); d != (api.Digest{}) || n != 0 || e != api.ErrPack {
		t.Errorf("%s: Head: %x, %d, %d, not %d", what, d, n, e, api.ErrPack)
	}
	refuses(t, what, b, api.ErrPack)
}

// reads asks that Read tells this chunk, and as many blocks as Head.
func reads(t *testing.T, what string, b, chunk []byte) {
	t.Helper()
	_, blocks, _ := pack.Head(b)
	if got, n, e := pack.Read(b); !bytes.Equal(got, chunk) || n != blocks || e != api.OK {
		t.Errorf("%s: Read: %d bytes, %d, %d, not %d bytes, %d", what, len(got), n, e, len(chunk), blocks)
	}
}

// refuses asks that Read tells an error and nothing else.
func refuses(t *testing.T, what string, b []byte, want api.Errno) {
	t.Helper()
	if got, n, e := pack.Read(b); len(got) != 0 || n != 0 || e != want {
		t.Errorf("%s: Read: %d bytes, %d, %d, not %d", what, len(got), n, e, want)
	}
}
