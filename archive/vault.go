package archive

import (
	"saltern/api"
	"saltern/halt"
	"saltern/log"
	"saltern/names"
	"saltern/record"
	"saltern/roll"
	"saltern/store"
)

// vault is what lies behind an Archive. Its methods are asked within halt.Caught alone.
type vault struct {
	log   *log.Log
	store *store.Store
	names *names.Names // none, if it is broken
	way   api.RollConf
}

// fault is the error of an archive that refuses all.
func (v *vault) fault() api.Errno {
	switch {
	case v.log == nil:
		return api.ErrNil
	case v.names == nil:
		return api.ErrBroken
	}
	return api.OK
}

// namesOf is the namespace of a log's records, if they are to be trusted and make one.
func namesOf(l *log.Log) *names.Names {
	if l.Broken() {
		return nil
	}
	n, _, _ := names.Of(l.Records()...)
	return n
}

func (v *vault) lead(epoch, site int) {
	halt.Unless(epoch == v.log.Promise(), api.ErrVow)
	v.write(api.Record{Kind: api.RLead, Epoch: epoch, Site: site})
}

func (v *vault) put(path string, b []byte) api.Head {
	halt.Unless(record.IsPath(path), api.ErrArg)
	halt.Unless(len(b) <= api.MaxFile, api.ErrLong)
	r := api.Record{Kind: api.RPut, Path: path}
	v.ready(r)
	r.Pieces = v.pieces(b)
	return v.write(r)
}

func (v *vault) delete(path string) api.Head {
	halt.Unless(record.IsPath(path), api.ErrArg)
	r := api.Record{Kind: api.RDelete, Path: path}
	v.ready(r)
	return v.write(r)
}

// ready asks whether somebody leads, and whether the namespace takes a record. What
// one puts plays no part in that, so it can be asked ahead of the first chunk.
func (v *vault) ready(r api.Record) {
	head := v.log.Head()
	halt.Unless(head.Epoch > 0, api.ErrNobody)
	halt.On(v.names.May(halt.Must(record.Make(head, r))))
}

// pieces has the chunks of a file there.
func (v *vault) pieces(b []byte) []api.Piece {
	sizes := halt.Must(roll.Cuts(v.way, b))
	halt.Unless(len(sizes) <= api.MaxPieces, api.ErrRecord)
	var l []api.Piece
	for _, n := range sizes {
		l = append(l, api.Piece{D: halt.Must(v.store.Put(b[:n])), N: n})
		b = b[n:]
	}
	return l
}

func (v *vault) take(r api.Record) {
	halt.Must(record.Next(v.log.Head(), r))
	halt.On(v.names.May(r))
	v.lay(r)
}

// write has a record behind the last one, as that asks for.
func (v *vault) write(r api.Record) api.Head {
	v.lay(halt.Must(record.Make(v.log.Head(), r)))
	return v.log.Head()
}

// lay has a record that follows behind the last one, for good.
func (v *vault) lay(r api.Record) {
	halt.Must(v.log.Append(r))
	halt.On(v.log.Sync())
	halt.On(v.names.Apply(r))
}

func (v *vault) cut(seq int) {
	halt.On(v.log.Cut(seq))
	v.names = namesOf(v.log)
}

func (v *vault) get(path string, from, size int) []byte {
	parts := halt.Must(v.names.Seek(path, from, size))
	row := make([]byte, 0, size)    // no more than a file has, as it was taken
	hand := map[api.Digest][]byte{} // pieces may be alike, and each chunk is read once
	for _, p := range parts {
		if _, noted := hand[p.D]; !noted {
			hand[p.D] = v.atHand(p.D)
		}
		chunk := hand[p.D]
		halt.Unless(len(chunk) == p.N, api.ErrMissing)
		row = append(row, chunk[p.From:p.To]...)
	}
	return row
}

func (v *vault) wants() []api.Digest {
	var l []api.Digest
	for _, d := range v.names.Digests() {
		if v.atHand(d) == nil {
			l = append(l, d)
		}
	}
	return l
}

// atHand is the chunk of a digest; nil, which is none, if it is not at hand.
func (v *vault) atHand(d api.Digest) []byte {
	b, e := v.store.Get(d)
	if e == api.ErrNone || e == api.ErrDamaged {
		return nil
	}
	return halt.Must(b, e)
}
