package log

import (
	"bytes"
	"iter"
	"slices"

	"saltern/api"
	"saltern/record"
	"saltern/sha"
	"saltern/word"
)

// A record's blocks begin with a mark, how many bytes it has, and the chain up to it.
const (
	recordMark = "SLOG"
	sizeAt     = len(recordMark)
	sizeBits   = 32
	recordAt   = sizeAt + sizeBits/8 + len(api.Digest{})
)

// records are those of a row of blocks, one behind the other, up to the first block
// that begins none; with each goes how many blocks it has.
func records(row []byte) iter.Seq2[api.Record, int] {
	return func(yield func(api.Record, int) bool) {
		for left := row; ; {
			r, n, ok := first(left)
			if !ok || !yield(r, n) {
				return
			}
			left = left[n*api.Block:]
		}
	}
}

// first is the record with whose blocks a row begins, if there is one, and how many they are.
func first(row []byte) (api.Record, int, bool) {
	if !bytes.HasPrefix(row, []byte(recordMark)) {
		return api.Record{}, 0, false
	}
	content := row[recordAt:]
	size, e := word.Word(row[sizeAt:], sizeBits, api.Little)
	if e != api.OK || size > uint64(len(content)) {
		return api.Record{}, 0, false
	}
	r, e := record.Parse(content[:size])
	if e != api.OK {
		return api.Record{}, 0, false
	}
	whole := laid(r)
	if !bytes.HasPrefix(row, whole) {
		return api.Record{}, 0, false
	}
	return r, len(whole) / api.Block, true
}

// laid are the blocks of a record that may be.
func laid(r api.Record) []byte {
	content, _ := record.Bytes(r)
	size, _ := word.Bytes(uint64(len(content)), sizeBits, api.Little)
	chain := sha.Sum(content)
	return filled(slices.Concat([]byte(recordMark), size, chain[:], content))
}

// filled are bytes, and as few zeros as make whole blocks of them.
func filled(b []byte) []byte {
	behind := len(b) % api.Block
	if behind == 0 {
		return b
	}
	return append(b, make([]byte, api.Block-behind)...)
}
