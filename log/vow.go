package log

import (
	"bytes"
	"slices"

	"saltern/api"
	"saltern/sha"
	"saltern/word"
)

// vowBlocks is how many blocks hold vows, in turns.
const vowBlocks = 2

// A vow's block begins with a mark, its epoch and its count.
const (
	vowMark   = "SVOW"
	epochAt   = len(vowMark)
	epochBits = 32
	countAt   = epochAt + epochBits/8
	countBits = 64
)

// vow is a promise of an epoch. The zero one is what counts where there is none.
type vow struct {
	epoch int
	count uint64
}

// block is what a block holds that has it.
func (v vow) block() []byte {
	epoch, _ := word.Bytes(uint64(v.epoch), epochBits, api.Little)
	count, _ := word.Bytes(v.count, countBits, api.Little)
	b := slices.Concat([]byte(vowMark), epoch, count)
	sum := sha.Sum(b)
	return filled(append(b, sum[:]...))
}

// vowOf is the vow that a block holds, if it does.
func vowOf(block []byte) (vow, bool) {
	epoch, _ := word.Word(block[epochAt:], epochBits, api.Little)
	count, _ := word.Word(block[countAt:], countBits, api.Little)
	v := vow{int(epoch), count}
	return v, v.epoch <= api.MaxEpoch && bytes.Equal(block, v.block())
}

// promised is the vow that counts of those in some blocks.
func promised(row []byte) vow {
	var best vow
	none := true
	for block := range slices.Chunk(row, api.Block) {
		v, ok := vowOf(block)
		if ok && (none || v.count > best.count) {
			best, none = v, false
		}
	}
	return best
}
