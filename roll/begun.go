package roll

import (
	"iter"

	"saltern/api"
)

// begun is a chunk as far as its bytes have come.
type begun struct {
	size int
	hash uint64
}

// ended tells whether the chunk ends behind its last byte.
func (o begun) ended(c api.RollConf) bool {
	// With no bits all are shifted out, and what stays is 0.
	return o.size == c.Most || o.size >= c.Least && o.hash>>(64-c.Bits) == 0
}

// with is the chunk with the next bytes, as far as they are its own.
func (o begun) with(c api.RollConf, b []byte) begun {
	for i := range b {
		o = begun{o.size + 1, Hash(o.hash, b[i:i+1])}
		if o.ended(c) {
			break
		}
	}
	return o
}

// parts tells b, cut off wherever a chunk ends, each part with its chunk as it is behind the part.
// The first part's is o, which has not ended; that of the last one may not have either.
func parts(c api.RollConf, o begun, b []byte) iter.Seq2[[]byte, begun] {
	return func(yield func([]byte, begun) bool) {
		from := o
		for rest := b; len(rest) > 0; {
			to := from.with(c, rest)
			n := to.size - from.size
			if !yield(rest[:n:n], to) {
				return
			}
			rest, from = rest[n:], begun{}
		}
	}
}
