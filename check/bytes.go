package check

import (
	"saltern/api"
	"saltern/parse"
	"saltern/word"
)

// letter is the first byte of each mark's.
const letter = 'M'

// Bytes are a mark's.
func Bytes(m api.Mark) ([]byte, api.Errno) {
	if e := Check(m); e != api.OK {
		return nil, e
	}
	return append(body(m), m.Mac[:]...), api.OK
}

// Parse is the mark of bytes.
func Parse(b []byte) (api.Mark, api.Errno) {
	return parse.Caught(api.ErrMark, func() api.Mark {
		l := parse.Of(b)
		parse.Need(l.Byte() == letter)
		m := api.Mark{Site: int(l.Byte())}
		m.Head.Seq = l.Number(api.MaxSeq)
		m.Head.Epoch = l.Number(api.MaxEpoch)
		m.Head.Chain = l.Digest()
		m.Mac = l.Digest()
		parse.Need(l.Len() == 0 && may(m))
		return m
	})
}

// body is the bytes of a mark that may be, but for its Mac.
func body(m api.Mark) []byte {
	b := []byte{letter, byte(m.Site)}
	b = append(b, word.Varint(uint64(m.Head.Seq))...)
	b = append(b, word.Varint(uint64(m.Head.Epoch))...)
	return append(b, m.Head.Chain[:]...)
}
