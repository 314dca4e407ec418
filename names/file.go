package names

import (
	"slices"
	"sort"
	"strings"

	"saltern/api"
	"saltern/record"
)

// file is a path's, with the place behind each of its pieces, by which a place in it is found.
type file struct {
	api.File
	ends []int
}

// put is what a record that may be puts.
func put(r api.Record) file {
	size, _ := record.Size(r.Pieces...)
	f := file{File: api.File{
		Path:   strings.Clone(r.Path), // which may be a few bytes of a long text
		Size:   size,
		Seq:    r.Seq,
		Pieces: slices.Clone(r.Pieces),
	}}
	end := 0
	for _, p := range r.Pieces {
		end += p.N
		f.ends = append(f.ends, end)
	}
	return f
}

// told is the file as it is answered.
func (f file) told() api.File {
	f.Pieces = slices.Clone(f.Pieces)
	return f.File
}

// copied is a file that shares no list with another one.
func (f file) copied() file {
	return file{File: f.told(), ends: slices.Clone(f.ends)}
}

// parts are those of the pieces that have the bytes from one place up to another, both within the file.
func (f file) parts(from, to int) []api.Part {
	i := sort.Search(len(f.ends), func(i int) bool { return f.ends[i] > from })
	var l []api.Part
	for from < to {
		p, end := f.Pieces[i], f.ends[i]
		start, stop := end-p.N, min(end, to)
		l = append(l, api.Part{D: p.D, N: p.N, From: from - start, To: stop - start})
		from = stop
		i++
	}
	return l
}
