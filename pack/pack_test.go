package pack_test

import (
	"bytes"
	"crypto/sha256"
	"encoding/binary"
	"testing"

	"saltern/api"
	"saltern/pack"
)

// P11.1: all bytes of small chunks' blocks, told by hand.
func TestBytesOfExamples(t *testing.T) {
	for chunk, want := range map[string]string{
		"a":  "5343484b01000300ca978112ca1bbdcafac231b39a23dc4da786eff8147c4e72b9807785afee48bbb070f131000161",
		"ab": "5343484b02000400fb8e20fc2e4c3f248c60c39bd652f3c1347298bb977b8b4d5903b85055620603e3d70cb300026162",
	} {
		b := made(t, []byte(chunk))
		first := raw(t, want)
		if len(b) != 512 || !bytes.HasPrefix(b, first) || len(bytes.Trim(b[len(first):], "\x00")) != 0 {
			t.Errorf("%s: %x", chunk, b)
		}
	}
}

// P11.1
func TestBytesAsTheWordsSay(t *testing.T) {
	for _, chunk := range manyChunks() {
		want := worded(t, chunk)
		if b := made(t, chunk); !bytes.Equal(b, want) {
			t.Errorf("Bytes of %d bytes: %.60x, not %.60x", len(chunk), b, want)
		}
		if n, e := pack.Blocks(chunk); n != len(want)/512 || e != api.OK {
			t.Errorf("Blocks of %d bytes: %d, %d, not %d", len(chunk), n, e, len(want)/512)
		}
	}
}

// P11.1: a chunk whose head and code fill their blocks just, and one byte more.
func TestBlocksFilledJust(t *testing.T) {
	for k := 1; k <= 8; k++ {
		for more, want := range []int{k, k + 1} {
			chunk := wild(512*k - 44 - 3 + more)
			if code := coded(t, chunk); 44+len(code) != 512*k+more {
				t.Fatalf("a code of %d bytes", len(code))
			}
			if n, e := pack.Blocks(chunk); n != want || e != api.OK {
				t.Errorf("%d bytes: Blocks: %d, %d, not %d", len(chunk), n, e, want)
			}
			if b := made(t, chunk); len(b) != 512*want || b[512*k-1] != chunk[len(chunk)-1-more] {
				t.Errorf("%d bytes: Bytes: %d bytes", len(chunk), len(b))
			}
		}
	}
}

// P11.1: the same of packed codes: chunks that grow byte by byte come by each number of bytes of a code, or nearly.
func TestBlocksOfPackedOnes(t *testing.T) {
	c := chance(3)
	row := c.row(4096, 16)
	met := map[int]int{}
	for n := 820; n <= 920; n++ {
		code := coded(t, row[:n])
		want := (44 + len(code) + 511) / 512
		if blocks, e := pack.Blocks(row[:n]); blocks != want || e != api.OK || code[0] != 1 {
			t.Errorf("%d bytes: %d, %d, not %d", n, blocks, e, want)
		}
		if b := made(t, row[:n]); len(b) != 512*want {
			t.Errorf("%d bytes: %d", n, len(b))
		}
		met[44+len(code)]++
	}
	if met[512] == 0 || met[513] == 0 {
		t.Errorf("no chunk at the edge: %v", met)
	}
}

// P11.1
func TestChunksOfOneByte(t *testing.T) {
	for c := range 256 {
		chunk := []byte{byte(c)}
		b := made(t, chunk)
		if !bytes.Equal(b, worded(t, chunk)) || !bytes.Equal(b[:8], []byte("SCHK\x01\x00\x03\x00")) {
			t.Errorf("%d: %.60x", c, b)
		}
		if n, e := pack.Blocks(chunk); n != 1 || e != api.OK {
			t.Errorf("%d: Blocks: %d, %d", c, n, e)
		}
	}
}

// P11.1: as many bytes as may be: stored they have 9 blocks, packed as few as one.
func TestChunksOfMostBytes(t *testing.T) {
	for _, c := range []struct {
		chunk  []byte
		blocks int
	}{{wild(4096), 9}, {make([]byte, 4096), 1}} {
		b := made(t, c.chunk)
		if len(b) != 512*c.blocks || !bytes.Equal(b[:6], []byte("SCHK\x00\x10")) {
			t.Errorf("%d bytes: %.60x", len(b), b)
		}
		if n, e := pack.Blocks(c.chunk); n != c.blocks || e != api.OK {
			t.Errorf("Blocks: %d, %d, not %d", n, e, c.blocks)
		}
	}
}

// P11.1: the last ones are too many for a code, too.
func TestNoChunk(t *testing.T) {
	for _, chunk := range [][]byte{nil, {}, wild(4097), make([]byte, 4097), make([]byte, 65536), make([]byte, 65537), wild(1 << 20)} {
		if b, e := pack.Bytes(chunk); len(b) != 0 || e != api.ErrChunk {
			t.Errorf("Bytes of %d bytes: %d, %d", len(chunk), len(b), e)
		}
		if n, e := pack.Blocks(chunk); n != 0 || e != api.ErrChunk {
			t.Errorf("Blocks of %d bytes: %d, %d", len(chunk), n, e)
		}
	}
}

// P11.1
func TestErased(t *testing.T) {
	b := pack.Erased()
	if !bytes.Equal(b, make([]byte, 512)) {
		t.Errorf("%x", b)
	}
	noHead(t, "erased", b)
	for i := range b {
		b[i] = 9
	}
	if !bytes.Equal(pack.Erased(), make([]byte, 512)) {
		t.Error("two answers are one memory")
	}
}

// P11.1: a chunk is not changed, and what is told of it is new.
func TestBytesIsApart(t *testing.T) {
	for _, chunk := range [][]byte{[]byte("a"), wild(700), make([]byte, 4096)} {
		kept := bytes.Clone(chunk)
		first, second := made(t, chunk), made(t, chunk)
		pack.Blocks(chunk)
		if !bytes.Equal(chunk, kept) {
			t.Error("a chunk is changed")
		}
		for i := range first {
			first[i] ^= 255
		}
		if !bytes.Equal(chunk, kept) || !bytes.Equal(second, worded(t, kept)) {
			t.Error("an answer shares memory")
		}
		for i := range chunk {
			chunk[i] ^= 255
		}
		if !bytes.Equal(second, worded(t, kept)) {
			t.Error("an answer shares memory with a chunk")
		}
	}
}

// P11.2: each number that 16 bits may say, with the other one at its edges.
func TestHeadOfEachNumber(t *testing.T) {
	b := made(t, []byte("a"))
	d := sha256.Sum256([]byte("a"))
	for x := range 1 << 16 {
		for _, y := range []int{0, 1, 3, 469, 4096, 4097, 4100, 4101, 65535} {
			for _, c := range []struct{ chunk, code int }{{x, y}, {y, x}} {
				binary.LittleEndian.PutUint16(b[4:], uint16(c.chunk))
				binary.LittleEndian.PutUint16(b[6:], uint16(c.code))
				got, n, e := pack.Head(b[:44])
				good := c.chunk >= 1 && c.chunk <= 4096 && c.code >= 1 && c.code <= 4100
				if good && (got != d || n != (c.code+44+511)/512 || e != api.OK) {
					t.Fatalf("%d, %d: %x, %d, %d", c.chunk, c.code, got, n, e)
				}
				if !good && (got != api.Digest{} || n != 0 || e != api.ErrPack) {
					t.Fatalf("%d, %d: %x, %d, %d", c.chunk, c.code, got, n, e)
				}
			}
		}
	}
}

// P11.2: the numbers of blocks at their edges, told by hand.
func TestHeadBlocks(t *testing.T) {
	for code, blocks := range map[int]int{1: 1, 468: 1, 469: 2, 980: 2, 981: 3, 4052: 8, 4053: 9, 4096: 9, 4099: 9, 4100: 9} {
		s := said{"SCHK", 1, code, [32]byte{7, 31: 9}, nil}
		heads(t, "a code's edge", s.bytes()[:44], s.digest, blocks)
	}
}

// P11.2
func TestHeadOfWrongNumbers(t *testing.T) {
	good := saying([]byte("a"), stored([]byte("a")))
	for _, c := range []struct {
		what        string
		chunk, code int
	}{
		{"no bytes", 0, 3},
		{"4097 bytes", 4097, 3},
		{"65535 bytes", 65535, 3},
		{"a code of no bytes", 1, 0},
		{"a code of 4101 bytes", 1, 4101},
		{"a code of 65535 bytes", 1, 65535},
		{"neither", 0, 0},
		{"neither, too many", 4097, 4101},
	} {
		s := good
		s.chunk, s.code = c.chunk, c.code
		s.body = append(bytes.Clone(good.body), make([]byte, 9000)...)
		noHead(t, c.what, s.bytes())
		noHead(t, c.what, s.bytes()[:44])
	}
}

// P11.2: 43 bytes are too few, 44 and whatever is behind them will do.
func TestHeadOfFewBytes(t *testing.T) {
	for _, chunk := range [][]byte{[]byte("a"), wild(466), wild(4096)} {
		b := made(t, chunk)
		for n := range 44 {
			noHead(t, "a beginning", b[:n])
		}
		for _, n := range []int{44, 45, 511, 512, len(b) - 1, len(b)} {
			heads(t, "a beginning", b[:n], sha256.Sum256(chunk), len(b)/512)
		}
		heads(t, "more behind", append(bytes.Clone(b), wild(5000)...), sha256.Sum256(chunk), len(b)/512)
	}
	noHead(t, "nothing", nil)
	noHead(t, "no bytes", []byte{})
}

// P11.2: another beginning.
func TestHeadOfOtherBeginnings(t *testing.T) {
	b := made(t, []byte("a"))
	for at := range 4 {
		was := b[at]
		for x := range 256 {
			b[at] = byte(x)
			if b[at] != was {
				sum(b)
				noHead(t, "a byte of SCHK", b)
			}
		}
		b[at] = was
	}
	for _, mark := range []string{"SCHX", "schk", "KHCS", "\x00SCH", "CHKS", "    ", "\x00\x00\x00\x00"} {
		copy(b, mark)
		sum(b)
		noHead(t, mark, b)
	}
}

// P11.2: Head holds neither the sum nor the digest nor the code against anything.
func TestHeadSaysWhatStandsThere(t *testing.T) {
	c := chance(5)
	for range 300 {
		b := c.row(44+c.below(600), 256)
		copy(b, "SCHK")
		chunk, code := 1+c.below(4096), 1+c.below(4100)
		binary.LittleEndian.PutUint16(b[4:], uint16(chunk))
		binary.LittleEndian.PutUint16(b[6:], uint16(code))
		kept := bytes.Clone(b)
		heads(t, "anything", b, api.Digest(b[8:40]), (44+code+511)/512)
		if !bytes.Equal(b, kept) {
			t.Error("Head changes what it is given")
		}
	}
}
