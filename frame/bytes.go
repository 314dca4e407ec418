package frame

import (
	"slices"

	"saltern/api"
	"saltern/parse"
	"saltern/word"
)

// letter is the first byte of each frame's.
const letter = 'F'

// written are the bytes of the body of a frame that may be.
func written(f api.Frame) []byte {
	return slices.Concat(
		[]byte{letter, byte(f.From)},
		word.Varint(uint64(f.Epoch)),
		long(f.Me),
		long(f.You),
		word.Varint(uint64(f.N)),
		word.Varint(uint64(f.All)),
		long(f.More),
		word.Varint(uint64(len(f.Body))),
		f.Body,
	)
}

// longSize is how many bytes a number has that is no varint.
const longSize = 8

func long(x uint64) []byte {
	b, _ := word.Bytes(x, 8*longSize, api.Big)
	return b
}

// read is the frame of bytes, with a MAC behind it, which may be another one's.
func read(b []byte) (api.Frame, api.Errno) {
	return parse.Caught(api.ErrFrame, func() api.Frame {
		l := reader{parse.Of(b)}
		f := l.frame()
		parse.Need(l.Len() == len(api.Digest{}) && may(f))
		return f
	})
}

// reader takes a frame from what is left.
type reader struct {
	parse.Rest
}

// frame takes one, which may be or not.
func (l *reader) frame() api.Frame {
	var f api.Frame
	parse.Need(l.Byte() == letter)
	f.From = int(l.Byte())
	f.Epoch = l.Number(api.MaxEpoch)
	f.Me = l.long()
	f.You = l.long()
	f.N = l.Number(api.MaxNumber)
	f.All = l.Number(api.MaxNumber)
	f.More = l.long()
	n := l.Number(api.MaxMessage)
	f.Body = append(f.Body, l.Take(n)...) // a copy: what is taken shares memory with what was handed in
	return f
}

func (l *reader) long() uint64 {
	x, _ := word.Word(l.Take(longSize), 8*longSize, api.Big)
	return x
}
