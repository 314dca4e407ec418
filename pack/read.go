package pack

import (
	"saltern/api"
	"saltern/codec"
	"saltern/crc"
	"saltern/sha"
	"saltern/word"
)

// rest is what is left to be read; who takes of it knows that as much is there.
type rest struct {
	left []byte
}

// next takes n bytes.
func (r *rest) next(n int) []byte {
	b := r.left[:n]
	r.left = r.left[n:]
	return b
}

// number takes one of so many bits.
func (r *rest) number(bits int) int {
	x, _ := word.Word(r.next(bits/8), bits, api.Little)
	return int(x)
}

// opened is a head that was read, and what is left behind it.
type opened struct {
	rest
	head
	ahead []byte // its bytes that were summed
	sum   uint32
}

// open reads the head with which bytes begin.
func open(b []byte) (opened, api.Errno) {
	if len(b) < headSize {
		return opened{}, api.ErrPack
	}
	o := opened{rest: rest{b}, ahead: b[:summed]}
	first := string(o.next(len(mark)))
	o.chunk = o.number(width)
	o.code = o.number(width)
	copy(o.digest[:], o.next(len(o.digest)))
	o.sum = uint32(o.number(sumBits))
	if first != mark || !o.may() {
		return opened{}, api.ErrPack
	}
	return o, api.OK
}

// content takes the code and what stands behind it, all of which is there, and is the chunk.
func (o *opened) content() ([]byte, api.Errno) {
	code := o.next(o.code)
	if crc.Of(o.ahead, code) != o.sum {
		return nil, api.ErrCrc
	}
	for _, c := range o.next(o.behind()) {
		if c != 0 {
			return nil, api.ErrPack
		}
	}
	chunk, e := codec.Decode(code)
	if e != api.OK || len(chunk) != o.chunk {
		return nil, api.ErrChunk
	}
	if sha.Sum(chunk) != o.digest {
		return nil, api.ErrDigest
	}
	return chunk, api.OK
}
