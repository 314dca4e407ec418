package record

import (
	"saltern/api"
	"saltern/parse"
	"saltern/word"
)

// mark is the first byte of each record's.
const mark = 'R'

// written are the bytes of a record that may be.
func written(r api.Record) []byte {
	b := []byte{mark, byte(r.Kind)}
	b = append(b, word.Varint(uint64(r.Seq))...)
	b = append(b, word.Varint(uint64(r.Epoch))...)
	b = append(b, r.Prev[:]...)
	if r.Kind == api.RLead {
		return append(b, byte(r.Site))
	}
	b = append(b, byte(len(r.Path)))
	b = append(b, r.Path...)
	if r.Kind == api.RPut {
		b = append(b, writtenPieces(r.Pieces)...)
	}
	return b
}

func writtenPieces(l []api.Piece) []byte {
	b := word.Varint(uint64(len(l)))
	for _, p := range l {
		b = append(b, word.Varint(uint64(p.N))...)
		b = append(b, p.D[:]...)
	}
	return b
}

// reader takes a record from what is left.
type reader struct {
	parse.Rest
}

// record takes one, which may be or not: of a kind that is none only what all kinds have.
func (l *reader) record() api.Record {
	var r api.Record
	parse.Need(l.Byte() == mark)
	r.Kind = api.RecordKind(l.Byte())
	r.Seq = l.Number(api.MaxSeq)
	r.Epoch = l.Number(api.MaxEpoch)
	r.Prev = l.Digest()
	switch r.Kind {
	case api.RLead:
		r.Site = int(l.Byte())
	case api.RPut:
		r.Path = l.path()
		r.Pieces = l.pieces()
	case api.RDelete:
		r.Path = l.path()
	}
	return r
}

func (l *reader) path() string {
	n := l.Byte()
	return string(l.Take(int(n)))
}

func (l *reader) pieces() []api.Piece {
	var ps []api.Piece // made as they come: there may be far fewer than are said
	for range l.Number(api.MaxPieces) {
		n := l.Number(api.MaxChunk)
		ps = append(ps, api.Piece{D: l.Digest(), N: n})
	}
	return ps
}
