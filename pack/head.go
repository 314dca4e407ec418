package pack

import "saltern/api"

const (
	mark     = "SCHK"
	width    = 16 // bits of each number of bytes
	summed   = 40 // bytes of a head that the sum is of, with the code
	sumBits  = 32
	headSize = summed + sumBits/8
	mostCode = api.MaxChunk + 4 // codec.Encode tells at most 4 bytes more than a row has
)

// head is what stands ahead of a chunk's code, but for the sum.
type head struct {
	chunk  int // how many bytes it has
	code   int // how many its code has
	digest api.Digest
}

// bytes are those of a head that are summed.
func (h head) bytes() []byte {
	b := []byte(mark)
	b = lowFirst(b, uint32(h.chunk), width)
	b = lowFirst(b, uint32(h.code), width)
	return append(b, h.digest[:]...)
}

// blocks is how many a head and its code have.
func (h head) blocks() int {
	return (headSize + h.code + api.Block - 1) / api.Block
}

// behind is how many bytes these blocks have behind the code.
func (h head) behind() int {
	return h.blocks()*api.Block - headSize - h.code
}

// may tells whether a head may say such numbers.
func (h head) may() bool {
	return isChunk(h.chunk) && h.code >= 1 && h.code <= mostCode
}

// lowFirst is b, and behind it a number of so many bits, its lowest byte first.
func lowFirst(b []byte, x uint32, bits int) []byte {
	for at := 0; at < bits; at += 8 {
		b = append(b, byte(x>>at))
	}
	return b
}
