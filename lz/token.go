package lz

import "saltern/api"

// kind is what a token is.
type kind int

const (
	neither kind = iota
	literal
	copied
)

func kindOf(t api.Token) kind {
	switch {
	case t.Dist == 0 && t.Len == 1:
		return literal
	case within(t.Dist, 1, api.MaxChunk) && within(t.Len, api.MinCopy, api.MaxCopy) && t.Lit == 0:
		return copied
	}
	return neither
}

func within(x, least, most int) bool { return least <= x && x <= most }

// fault tells why a token cannot stand behind n bytes.
func fault(t api.Token, n int) api.Errno {
	switch kindOf(t) {
	case neither:
		return api.ErrToken
	case copied:
		if t.Dist > n {
			return api.ErrDist
		}
		fallthrough // what bounds a literal bounds a copy too
	case literal:
		if n+t.Len > api.MaxRaw {
			return api.ErrLong
		}
	}
	return api.OK
}

// grown is b with the bytes of a token behind it that can stand there.
func grown(b []byte, t api.Token) []byte {
	if t.Dist == 0 {
		return append(b, t.Lit)
	}
	// One by one: a copy may copy what it makes.
	for range t.Len {
		b = append(b, b[len(b)-t.Dist])
	}
	return b
}
