package codec

import (
	"math/bits"

	"saltern/api"
)

const (
	literals  = 256                                      // symbols of bytes
	copies    = literals - api.MinCopy                   // a copy's symbol is so much above its Len
	symbols   = literals + api.MaxCopy - api.MinCopy + 1 // of tokens
	distances = 13                                       // as many as MaxChunk has bits
)

// symbol is a token's.
func symbol(t api.Token) int {
	if t.Dist == 0 {
		return int(t.Lit)
	}
	return copies + t.Len
}

// distance is the symbol of a copy's Dist; so many further bits stand behind it.
func distance(dist int) int { return bits.Len(uint(dist)) - 1 }

// counts are how often each symbol comes, of tokens and of distances.
func counts(l []api.Token) (kinds [symbols]int, dists [distances]int) {
	for _, t := range l {
		kinds[symbol(t)]++
		if t.Dist > 0 {
			dists[distance(t.Dist)]++
		}
	}
	return kinds, dists
}
