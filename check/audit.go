package check

import (
	"saltern/api"
	"saltern/record"
)

// audit is what marks are held against, and what was found so far.
type audit struct {
	key    []byte
	heads  []api.Head  // the catalogue's of each number
	marks  []api.Mark  // all of them
	firsts map[int]int // of each Seq, the first mark that has it
	found  api.Finding
}

// Audit is what is found of a catalogue, held against marks.
func Audit(key []byte, l []api.Record, marks ...api.Mark) api.Finding {
	heads := headsOf(l)
	if follow := len(heads) - 1; follow < len(l) {
		return api.Finding{Kind: api.FChain, I: follow}
	}
	a := audit{key: key, heads: heads, marks: marks, firsts: map[int]int{}, found: api.Finding{Kind: api.FGood}}
	for i := range marks {
		a.hold(i)
	}
	return a.found
}

// headsOf are a catalogue's of each number, from 0 on, up to the first record that does not follow.
func headsOf(l []api.Record) []api.Head {
	heads := []api.Head{{}}
	for i, r := range l {
		h, e := record.Next(heads[i], r)
		if e != api.OK {
			break
		}
		heads = append(heads, h)
	}
	return heads
}

// hold asks of a mark just for the kinds that count ahead of what was found, from the last of them to the first, so that the first one that holds stays.
func (a *audit) hold(i int) {
	m := a.marks[i]
	switch a.found.Kind {
	case api.FGood:
		if !a.reaches(m.Head) {
			a.found = api.Finding{Kind: api.FShort, I: i}
		}
		fallthrough
	case api.FShort:
		if a.reaches(m.Head) && !a.has(m.Head) {
			a.found = api.Finding{Kind: api.FOther, I: i}
		}
		fallthrough
	case api.FOther:
		if k := a.first(i); a.marks[k].Head != m.Head {
			a.found = api.Finding{Kind: api.FFork, I: k, K: i}
		}
		fallthrough
	case api.FFork:
		if !Sealed(a.key, m) {
			a.found = api.Finding{Kind: api.FForged, I: i}
		}
	}
}

// reaches tells whether the catalogue has as many records as a head's Seq.
func (a *audit) reaches(h api.Head) bool {
	return h.Seq < len(a.heads)
}

// has tells whether the catalogue, which reaches a head, has it. (One that is not sealed may have any Seq.)
func (a *audit) has(h api.Head) bool {
	return h.Seq >= 0 && a.heads[h.Seq] == h
}

// first is the first mark with the Seq of another one. As long as no fork is found all marks of one Seq have one head, so that the first one stands for all.
func (a *audit) first(i int) int {
	seq := a.marks[i].Head.Seq
	k, there := a.firsts[seq]
	if !there {
		k = i
		a.firsts[seq] = i
	}
	return k
}
