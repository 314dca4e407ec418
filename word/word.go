// Package word is layer 1: numbers of 16, 32 and 64 bits, turned, as bytes, and as varints.
package word

import "saltern/api"

const (
	more    = 0x80 // marks a varint's byte that is not its last one
	group   = 7    // bits of the number in each byte of a varint
	tenth   = 9    // the place of the last byte that a varint may have
	topmost = 1    // that byte: 63 of 64 bits stand ahead of it
)

// Turn turns the lowest bits of a number to the left.
func Turn(x uint64, bits, by int) (uint64, api.Errno) {
	if size(bits) == 0 {
		return 0, api.ErrSize
	}
	// Added behind the first remainder, so that the least int does not overflow.
	left := (by%bits + bits) % bits
	low := lowest(x, bits)
	return lowest(low<<left|low>>(bits-left), bits), api.OK
}

// Bytes are a number's.
func Bytes(x uint64, bits int, o api.Order) ([]byte, api.Errno) {
	if e := fault(bits, o); e != api.OK {
		return nil, e
	}
	b := make([]byte, size(bits))
	for i := range len(b) {
		b[i] = byte(x >> shift(i, len(b), o))
	}
	return b, api.OK
}

// Word is the number of the first bytes.
func Word(b []byte, bits int, o api.Order) (uint64, api.Errno) {
	if e := fault(bits, o); e != api.OK {
		return 0, e
	}
	n := size(bits)
	if len(b) < n {
		return 0, api.ErrShort
	}
	return number(b[:n], o), api.OK
}

// Words are the numbers of some bytes.
func Words(b []byte, bits int, o api.Order) ([]uint64, api.Errno) {
	if e := fault(bits, o); e != api.OK {
		return nil, e
	}
	n := size(bits)
	if len(b)%n != 0 {
		return nil, api.ErrShort
	}
	l := make([]uint64, len(b)/n)
	for i := range len(l) {
		l[i] = number(b[i*n:(i+1)*n], o)
	}
	return l, api.OK
}

// Varint are a number's bytes, as few as may be.
func Varint(x uint64) []byte {
	var b []byte
	for x >= more {
		b = append(b, byte(x)|more)
		x >>= group
	}
	return append(b, byte(x))
}

// Read is the number of the varint with which bytes begin, and how many bytes it has; with an error the place.
func Read(b []byte) (uint64, int, api.Errno) {
	var x uint64
	for i := range len(b) {
		if !follows(b[i], i) {
			return 0, i, api.ErrVarint
		}
		x |= uint64(b[i]&^more) << (group * i)
		if b[i] < more {
			return x, i + 1, api.OK
		}
	}
	return 0, len(b), api.ErrShort
}

// Zigzag is a number with its sign in its lowest bit; and back.
func Zigzag(x int64) uint64 {
	// A shift to the right keeps the sign: all bits are 1 below 0, none else.
	return uint64(x)<<1 ^ uint64(x>>63)
}

// Unzigzag is the number of which another one is the Zigzag.
func Unzigzag(x uint64) int64 {
	return int64(x>>1) ^ -int64(x&1)
}

// size is how many bytes a number of a width has; 0, where bits is no width.
func size(bits int) int {
	n := 1
	switch bits {
	case 64:
		n <<= 1
		fallthrough
	case 32:
		n <<= 1
		fallthrough
	case 16:
		n <<= 1
		fallthrough
	case 8:
		return n
	}
	return 0
}

// fault is what is wrong with a width and an order; the width counts first.
func fault(bits int, o api.Order) api.Errno {
	if size(bits) == 0 {
		return api.ErrSize
	}
	if o != api.Big && o != api.Little {
		return api.ErrArg
	}
	return api.OK
}

// lowest are the lowest bits of a number, of a width.
func lowest(x uint64, bits int) uint64 {
	rest := 64 - bits
	return x << rest >> rest
}

// shift is how many bits of a number of n bytes lie below its byte i.
func shift(i, n int, o api.Order) int {
	if o == api.Big {
		i = n - 1 - i
	}
	return 8 * i
}

// number is the one that has just these bytes.
func number(b []byte, o api.Order) uint64 {
	var x uint64
	for i := range len(b) {
		x |= uint64(b[i]) << shift(i, len(b), o)
	}
	return x
}

// follows tells whether some varint has c at place i, behind bytes that all go on.
func follows(c byte, i int) bool {
	if i == tenth {
		return c == topmost
	}
	// A last byte of 0 behind others would be one more than the number needs.
	return i == 0 || c != 0
}
