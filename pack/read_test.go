package pack_test

import (
	"bytes"
	"crypto/sha256"
	"encoding/binary"
	"testing"

	"saltern/api"
	"saltern/pack"
)

// P11.3: 43 bytes are no head; from 44 on a head without its blocks, up to one byte too few; then a chunk.
func TestReadOfEachBeginning(t *testing.T) {
	for _, chunk := range [][]byte{[]byte("a"), wild(465), wild(466), wild(4096), make([]byte, 4096)} {
		b := made(t, chunk)
		for n := range len(b) {
			want := api.ErrShort
			if n < 44 {
				want = api.ErrPack
			}
			refuses(t, "a beginning", b[:n], want)
		}
		reads(t, "just its blocks", b, chunk)
	}
}

// P11.3: a block too few, and a block that is not whole.
func TestReadOfBlocksTooFew(t *testing.T) {
	for k := 2; k <= 9; k++ {
		b := made(t, wild(512*k-540))
		if len(b) != 512*k {
			t.Fatalf("%d bytes", len(b))
		}
		refuses(t, "a block too few", b[:512*(k-1)], api.ErrShort)
		refuses(t, "a byte too few", b[:512*k-1], api.ErrShort)
		refuses(t, "a byte of the last one", b[:512*(k-1)+1], api.ErrShort)
	}
}

// P11.3: each bit of a sum.
func TestReadOfOtherSums(t *testing.T) {
	for _, chunk := range [][]byte{[]byte("a"), wild(466), make([]byte, 4096)} {
		for bit := range 32 {
			b := made(t, chunk)
			b[40+bit/8] ^= 1 << (bit % 8)
			refuses(t, "a bit of the sum", b, api.ErrCrc)
		}
		b := made(t, chunk)
		binary.BigEndian.PutUint32(b[40:], sumOf(b))
		refuses(t, "the highest byte first", b, api.ErrCrc)
		binary.LittleEndian.PutUint32(b[40:], ^sumOf(b))
		refuses(t, "all bits turned over", b, api.ErrCrc)
	}
}

// P11.3: the sum is of the 40 bytes ahead, and of all of the code.
func TestReadSumsHeadAndCode(t *testing.T) {
	chunk := wild(700)
	n := 44 + len(coded(t, chunk))
	for at := range n {
		if at < 8 || at >= 40 && at < 44 {
			continue
		}
		b := made(t, chunk)
		b[at] ^= 1
		refuses(t, "a byte that is summed", b, api.ErrCrc)
	}
	b := made(t, chunk)
	b[4] ^= 1
	refuses(t, "its number of bytes", b, api.ErrCrc)
	b[4] ^= 1
	b[6] ^= 1
	refuses(t, "its code's number of bytes", b, api.ErrCrc)
}

// P11.3: another byte than 0 behind the code, at the first place, the last one and all between.
func TestReadOfBytesBehindTheCode(t *testing.T) {
	for _, chunk := range [][]byte{[]byte("a"), wild(464), wild(466), wild(4096), make([]byte, 4096)} {
		n := 44 + len(coded(t, chunk))
		b := made(t, chunk)
		for at := n; at < len(b); at++ {
			for _, c := range []byte{1, 128, 255} {
				b[at] = c
				refuses(t, "a byte behind the code", b, api.ErrPack)
			}
			b[at] = 0
		}
		reads(t, "none", b, chunk)
	}
}

// P11.3: where the code fills its blocks just, none stands behind it.
func TestReadOfBlocksFilledJust(t *testing.T) {
	for k := 1; k <= 8; k++ {
		for more := range 2 {
			chunk := wild(512*k - 47 + more)
			b := made(t, chunk)
			reads(t, "filled just", append(b, 1), chunk)
		}
	}
}

// P11.3: rightly summed blocks whose code is none.
func TestReadOfNoCode(t *testing.T) {
	chunk := []byte("abc")
	for what, code := range map[string][]byte{
		"another first byte":        append([]byte{2}, stored(chunk)[1:]...),
		"a byte too few":            stored(chunk)[:4],
		"a byte too many":           append(stored(chunk), 0),
		"one byte alone":            {0},
		"one byte alone, packed":    {1},
		"no tokens of three bytes":  {1, 3},
		"a number of another form":  {0, 0x83, 0, 'a', 'b', 'c'},
		"more bytes than there are": append([]byte{0, 4}, chunk...),
		"4100 bytes without end":    bytes.Repeat([]byte{255}, 4100),
		"4100 bytes stored, 1 less": append(stored(wild(4096)), 0),
	} {
		refuses(t, what, saying(chunk, code).bytes(), api.ErrChunk)
	}
}

// P11.3: a code of another number of bytes than the head says, also of one that no chunk has.
func TestReadOfOtherSizes(t *testing.T) {
	chunk := []byte("abc")
	for _, n := range []int{1, 2, 4, 259, 4096} {
		s := saying(chunk, stored(chunk))
		s.chunk = n
		refuses(t, "another number of bytes", s.bytes(), api.ErrChunk)
	}
	for _, row := range [][]byte{{}, make([]byte, 4097), make([]byte, 65536)} {
		code := coded(t, row)
		for _, n := range []int{1, 4096} {
			s := saying(row, code)
			s.chunk = n
			refuses(t, "a row that is no chunk", s.bytes(), api.ErrChunk)
		}
	}
}

// P11.3: each bit of a digest, and another chunk's.
func TestReadOfOtherDigests(t *testing.T) {
	for _, chunk := range [][]byte{[]byte("a"), wild(466), make([]byte, 4096)} {
		for bit := range 256 {
			s := saying(chunk, coded(t, chunk))
			s.digest[bit/8] ^= 1 << (bit % 8)
			refuses(t, "a bit of the digest", s.bytes(), api.ErrDigest)
		}
		s := saying(chunk, coded(t, chunk))
		s.digest = [32]byte{}
		refuses(t, "no digest", s.bytes(), api.ErrDigest)
		s.digest = sha256.Sum256(s.body)
		refuses(t, "the code's digest", s.bytes(), api.ErrDigest)
	}
}

// P11.3: Read takes each code that Decode takes, not only that which Encode tells.
func TestReadOfOtherCodes(t *testing.T) {
	c := chance(7)
	for _, chunk := range [][]byte{[]byte("a"), make([]byte, 4096), c.row(1000, 3), wild(500)} {
		reads(t, "stored", saying(chunk, stored(chunk)).bytes(), chunk)
		reads(t, "packed", saying(chunk, literal(t, chunk)).bytes(), chunk)
	}
}

// P11.3: a code of as many bytes as a head may say, and of one more.
func TestReadOfTheLongestCode(t *testing.T) {
	met := map[int]int{}
	row := wild(4096)
	for n := 3700; n < 4096; n++ {
		chunk := row[:n]
		code := literal(t, chunk)
		met[len(code)]++
		switch b := saying(chunk, code).bytes(); len(code) {
		case 4100:
			reads(t, "4100 bytes", b, chunk)
		case 4101:
			noHead(t, "4101 bytes", b)
		}
	}
	if met[4100] == 0 || met[4101] == 0 {
		t.Error("no code at the edge")
	}
}

// P11.3: whatever else is wrong, the first error counts: each set of faults, with each form of them.
func TestReadTellsTheFirstError(t *testing.T) {
	chunk := []byte("some bytes that are a chunk")
	heads := []func([]byte){
		func(b []byte) { b[3] = 'X' },
		func(b []byte) { b[4], b[5] = 0, 0 },
		func(b []byte) { b[4], b[5] = 1, 16 },
		func(b []byte) { b[6], b[7] = 0, 0 },
		func(b []byte) { b[6], b[7] = 5, 16 },
	}
	codes := []func(*said){
		func(s *said) { s.body[0] = 2 },
		func(s *said) { s.chunk++ },
	}
	for faults := range 1 << 6 {
		has := func(i int) bool { return faults>>i&1 == 1 }
		for _, spoilHead := range heads {
			for _, spoilCode := range codes {
				s := saying(chunk, stored(chunk))
				if has(4) {
					spoilCode(&s)
				}
				if has(5) {
					s.digest[31] ^= 64
				}
				b := s.bytes()
				if has(2) {
					b[41] ^= 2
				}
				if has(3) {
					b[300] = 1
				}
				if has(0) {
					spoilHead(b)
				}
				if has(1) {
					b = b[:511]
				}
				refusesFirst(t, b, chunk, has)
			}
		}
	}
}

// refusesFirst asks for the error of the first fault that there is, in the order of the chapter.
func refusesFirst(t *testing.T, b, chunk []byte, has func(int) bool) {
	t.Helper()
	for i, want := range []api.Errno{api.ErrPack, api.ErrShort, api.ErrCrc, api.ErrPack, api.ErrChunk, api.ErrDigest} {
		if has(i) {
			refuses(t, "several faults", b, want)
			return
		}
	}
	reads(t, "no fault", b, chunk)
}

// P11.3: of a code that is none of the right size, and of another digest, the code counts.
func TestReadOfAnotherChunksCode(t *testing.T) {
	s := saying([]byte("abc"), stored([]byte("abcd")))
	refuses(t, "another size and digest", s.bytes(), api.ErrChunk)
	s = saying([]byte("abc"), stored([]byte("abd")))
	refuses(t, "another digest", s.bytes(), api.ErrDigest)
}

// P11.3: what is handed in is not changed, and a chunk that is told is new.
func TestReadIsApart(t *testing.T) {
	for _, chunk := range [][]byte{[]byte("a"), wild(700), make([]byte, 4096)} {
		b := append(made(t, chunk), 1, 2, 3)
		kept := bytes.Clone(b)
		first, _, _ := pack.Read(b)
		second, _, _ := pack.Read(b)
		for i := range first {
			first[i] ^= 255
		}
		if !bytes.Equal(b, kept) || !bytes.Equal(second, chunk) {
			t.Error("an answer shares memory")
		}
		for i := range b {
			b[i] ^= 255
		}
		if !bytes.Equal(second, chunk) {
			t.Error("an answer shares memory with what was handed in")
		}
	}
}
