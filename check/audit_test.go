package check_test

import (
	"bytes"
	"math"
	"slices"
	"testing"

	"saltern/api"
	"saltern/check"
	"saltern/record"
)

// audits asks for a finding.
func audits(t *testing.T, what string, key []byte, l []api.Record, marks []api.Mark, want api.Finding) {
	t.Helper()
	was, wasMarks, k := slices.Clone(l), slices.Clone(marks), bytes.Clone(key)
	got := check.Audit(key, l, marks...)
	if got != want {
		t.Errorf("%s: %d records, %d marks: %v, not %v", what, len(l), len(marks), got, want)
	}
	if words := wordedAudit(key, l, marks); got != words {
		t.Errorf("%s: %d records, %d marks: %v; by the words %v", what, len(l), len(marks), got, words)
	}
	if !slices.EqualFunc(l, was, record.Same) || !slices.Equal(marks, wasMarks) || !bytes.Equal(key, k) {
		t.Errorf("%s: an argument changed", what)
	}
}

// The findings, by their fields.
func chain(i int) api.Finding   { return api.Finding{Kind: 1, I: i} }
func unseal(i int) api.Finding  { return api.Finding{Kind: 2, I: i} }
func fork(i, k int) api.Finding { return api.Finding{Kind: 3, I: i, K: k} }
func other(i int) api.Finding   { return api.Finding{Kind: 4, I: i} }
func short(i int) api.Finding   { return api.Finding{Kind: 5, I: i} }
func good() api.Finding         { return api.Finding{Kind: 6} }

// sealed are marks of heads, of both sites in turns.
func sealed(key []byte, l ...api.Head) []api.Mark {
	var marks []api.Mark
	for i, h := range l {
		marks = append(marks, wordedMark(key, i%2, h))
	}
	return marks
}

// P16.3: of no records, of no marks, of neither.
func TestAuditOfNothing(t *testing.T) {
	key := keyOf(7)
	c := none().puts(t, "a", "b")
	audits(t, "neither", key, nil, nil, good())
	audits(t, "neither", nil, []api.Record{}, []api.Mark{}, good())
	audits(t, "no marks", key, c.l, nil, good())
	audits(t, "no marks", key, spoilt(c.l, 1, faults()[0]), nil, chain(1))
	audits(t, "no records, a mark of the zero head", key, nil, sealed(key, api.Head{}), good())
	audits(t, "no records, marks", key, nil, sealed(key, api.Head{}, c.heads[1], c.heads[2]), short(1))
	audits(t, "no records, a mark that is not sealed", key, nil, []api.Mark{{}}, unseal(0))
	audits(t, "no records, a fork", key, nil, sealed(key, c.heads[1], api.Head{Seq: 1, Epoch: 2}), fork(0, 1))
}

// P16.3: a catalogue that has all marks' heads, in any order, again and again, of both sites.
func TestAuditOfAGoodCatalogue(t *testing.T) {
	x := chance(6)
	for n := range 15 {
		c := none().any(t, &x, n)
		for _, key := range keys() {
			audits(t, "all heads", key, c.l, sealed(key, c.heads...), good())
		}
		key := keyOf(7)
		for range 20 {
			var l []api.Head
			for range 10 {
				l = append(l, c.heads[x.below(n+1)])
			}
			audits(t, "some heads", key, c.l, sealed(key, l...), good())
		}
	}
}

// P16.3: a record that does not follow, at the first place, in the midst and at the last.
func TestAuditOfNoChain(t *testing.T) {
	key := keyOf(7)
	x := chance(7)
	for n := 1; n < 9; n++ {
		c := none().any(t, &x, n)
		for at := range n {
			for _, f := range faults() {
				l := spoilt(c.l, at, f)
				audits(t, f.what, key, l, nil, chain(at))
				audits(t, f.what, key, l, sealed(key, c.heads...), chain(at))
				audits(t, f.what, key, l, sealed(key, c.heads[0]), chain(at))
				audits(t, f.what+" and marks that are not sealed", key, l, []api.Mark{{}, {Site: 9}}, chain(at))
				// What is behind the first one at fault does not count.
				audits(t, f.what+" and more", key, spoilt(l, n-1, faults()[5]), nil, chain(at))
			}
			if at < n-1 {
				audits(t, "one left out", key, slices.Delete(slices.Clone(c.l), at, at+1), nil, chain(at))
			}
			audits(t, "one twice", key, slices.Insert(slices.Clone(c.l), at, c.l[at]), nil, chain(at+1))
		}
	}
}

// P16.3: a mark that is not sealed, for each reason, at each place.
func TestAuditOfForgedMarks(t *testing.T) {
	key := keyOf(7)
	c := none().puts(t, "a", "b", "c")
	h := c.heads[2]
	wrong := []api.Mark{
		forged(wordedMark(key, 0, h)),
		wordedMark(keyOf(8), 0, h),
		wordedMark(nil, 0, h),
		{Site: 1, Head: h, Mac: wordedMark(key, 0, h).Mac},
		{Site: 0, Head: h},
		{Site: 0, Head: c.heads[1], Mac: wordedMark(key, 0, h).Mac},
		{},
		wordedMark(key, 2, h),
		wordedMark(key, -1, h),
	}
	for _, h := range badHeads() {
		wrong = append(wrong, wordedMark(key, 1, h), api.Mark{Head: h})
	}
	for _, w := range wrong {
		for at := range 4 {
			marks := slices.Insert(sealed(key, c.heads[0], c.heads[2], c.heads[4]), at, w)
			audits(t, "one", key, c.l, marks, unseal(at))
			audits(t, "two", key, c.l, append(marks, w), unseal(at))
			audits(t, "of no records", key, nil, marks, unseal(at))
			audits(t, "with a fork", key, c.l, append(marks, sealed(key, c.heads[1], api.Head{Seq: 1, Epoch: 9})...), unseal(at))
			ahead := append(sealed(key, api.Head{Seq: 9, Epoch: 9}, api.Head{Seq: 3, Epoch: 9}, c.heads[3]), marks...)
			audits(t, "behind all other kinds", key, c.l, ahead, unseal(at+3))
		}
	}
}

// P16.3: marks of one Seq that are alike, that part in the Epoch alone, in the Chain alone, in both.
func TestAuditOfForks(t *testing.T) {
	key := keyOf(7)
	c := none().puts(t, "a", "b", "c")
	h := c.heads[2]
	epoch, digest, both := h, h, h
	epoch.Epoch++
	digest.Chain[31] ^= 1
	both.Epoch, both.Chain[0] = 7, ^both.Chain[0]
	audits(t, "alike", key, c.l, sealed(key, h, h, h, h), good())
	for what, x := range map[string]api.Head{"Epoch": epoch, "Chain": digest, "both": both} {
		audits(t, what, key, c.l, sealed(key, h, x), fork(0, 1))
		audits(t, what, key, c.l, sealed(key, x, h), fork(0, 1))
		audits(t, what+", two of one site", key, c.l, []api.Mark{wordedMark(key, 1, h), wordedMark(key, 1, x)}, fork(0, 1))
		audits(t, what+", of no records", key, nil, sealed(key, h, x), fork(0, 1))
		audits(t, what+", behind others", key, c.l, sealed(key, c.heads[0], c.heads[4], h, c.heads[1], x), fork(2, 4))
		audits(t, what+", two ahead", key, c.l, sealed(key, c.heads[3], h, h, x), fork(1, 3))
		audits(t, what+", two behind", key, c.l, sealed(key, h, x, x, h), fork(0, 1))
		audits(t, what+", alone", key, c.l, sealed(key, x, x), other(0))
	}
	audits(t, "three heads", key, c.l, sealed(key, h, h, epoch, digest), fork(0, 2))
}

// P16.3: of two forks that whose second mark stands first, whichever first mark that has.
func TestAuditOfTwoForks(t *testing.T) {
	key := keyOf(7)
	a, b := none().puts(t, "a", "b", "c"), none().puts(t, "x", "y", "z")
	audits(t, "one within the other", key, a.l, sealed(key, a.heads[2], a.heads[3], b.heads[3], b.heads[2]), fork(1, 2))
	audits(t, "one behind the other", key, a.l, sealed(key, a.heads[3], b.heads[3], a.heads[2], b.heads[2]), fork(0, 1))
	audits(t, "in turns", key, a.l, sealed(key, a.heads[3], a.heads[2], b.heads[3], b.heads[2]), fork(0, 2))
	audits(t, "of the greatest Seq", key, a.l, sealed(key, api.Head{Seq: 1 << 30, Epoch: 1}, a.heads[2], api.Head{Seq: 1 << 30, Epoch: 2}), fork(0, 2))
}

// P16.3: a head that the catalogue has not: of Seq at most how many records there are; and one of a greater Seq.
func TestAuditOfOthersAndShort(t *testing.T) {
	key := keyOf(7)
	a, b := none().puts(t, "a", "b", "c"), none().puts(t, "a", "x", "y", "z")
	for n := range 5 {
		l := a.l[:n]
		for k := range 5 {
			want := good()
			if k > n {
				want = short(1)
			}
			audits(t, "its own", key, l, sealed(key, api.Head{}, a.heads[k], a.heads[min(k, n)]), want)
		}
		for k := 3; k < 6; k++ {
			want := other(1)
			if k > n {
				want = short(1)
			}
			audits(t, "another's", key, l, sealed(key, api.Head{}, b.heads[k], b.heads[k]), want)
		}
	}
	part := a.heads[3]
	part.Epoch++
	audits(t, "the Epoch alone", key, a.l, sealed(key, a.heads[2], part), other(1))
	part = a.heads[4]
	part.Chain[5] ^= 8
	audits(t, "the Chain alone, at the end", key, a.l, sealed(key, a.heads[2], part), other(1))
	audits(t, "two that part from each other, too", key, a.l, sealed(key, a.heads[3], b.heads[4], part), fork(1, 2))
	audits(t, "the first of two, of other numbers", key, a.l, sealed(key, a.heads[2], part, b.heads[3]), other(1))
	audits(t, "the second reaches further", key, a.l, sealed(key, a.heads[1], b.heads[3], b.heads[4]), other(1))
	audits(t, "the second is lower", key, a.l, sealed(key, a.heads[1], b.heads[4], b.heads[3]), other(1))
	audits(t, "the first of two that are too far", key, a.l[:2], sealed(key, a.heads[1], a.heads[4], a.heads[3]), short(1))
	audits(t, "the greatest Seq", key, a.l, sealed(key, a.heads[1], api.Head{Seq: 1 << 30, Epoch: 1 << 30}), short(1))
	audits(t, "one too far, behind it another's", key, a.l, sealed(key, b.heads[5], a.heads[1], b.heads[4]), other(2))
}

// P16.3: where kinds hold at once the first of them is told, in whichever order the marks stand.
func TestAuditOfSeveralKinds(t *testing.T) {
	key := keyOf(7)
	c := none().puts(t, "a", "b", "c", "d")
	far := api.Head{Seq: 6, Epoch: 1, Chain: api.Digest{6}}
	for set := range 1 << 5 {
		l := c.l
		if set&1 != 0 {
			l = spoilt(c.l, 3, faults()[0])
		}
		marks := sealed(key, c.heads[1], c.heads[2])
		if set&2 != 0 {
			marks = append(marks, forged(wordedMark(key, 0, c.heads[1])))
		}
		if set&4 != 0 {
			marks = append(marks, sealed(key, far, api.Head{Seq: 6, Epoch: 2})...)
		}
		if set&8 != 0 {
			marks = append(marks, sealed(key, api.Head{Seq: 4, Epoch: 1, Chain: api.Digest{4}})...)
		}
		if set&16 != 0 {
			marks = append(marks, sealed(key, api.Head{Seq: 7, Epoch: 1})...)
		}
		x := chance(set)
		for range 30 {
			want := wordedAudit(key, l, marks)
			if kind := least(set); want.Kind != kind {
				t.Fatalf("set %d: %v, not of kind %d", set, want, kind)
			}
			audits(t, "several", key, l, marks, want)
			i, k := x.below(len(marks)), x.below(len(marks))
			marks[i], marks[k] = marks[k], marks[i]
		}
	}
}

// least is the kind that counts of a set of them: a fork of those here reaches too far, too.
func least(set int) api.FindingKind {
	for kind := range 5 {
		if set&(1<<kind) != 0 {
			return api.FindingKind(kind + 1)
		}
	}
	return api.FGood
}

// P16.3: marks of any numbers end in FForged, whatever was found ahead of them.
func TestAuditOfHandMadeMarks(t *testing.T) {
	key := keyOf(7)
	c := none().puts(t, "a", "b")
	ahead := [][]api.Mark{
		nil,
		sealed(key, c.heads...),
		sealed(key, api.Head{Seq: 4, Epoch: 1}),
		sealed(key, api.Head{Seq: 2, Epoch: 9}),
		sealed(key, c.heads[2], api.Head{Seq: 2, Epoch: 9}),
		{forged(wordedMark(key, 0, c.heads[1]))},
	}
	for _, marks := range ahead {
		for _, n := range append(wrongNumbers(), 0, 1, 2, 3, 4) {
			for _, epoch := range []int{math.MinInt, -1, 0, 1, math.MaxInt} {
				m := api.Mark{Site: n, Head: api.Head{Seq: n, Epoch: epoch, Chain: api.Digest{1}}}
				want := unseal(len(marks))
				if len(marks) > 0 && !wordedSealed(key, marks[0]) {
					want = unseal(0)
				}
				audits(t, "hand-made", key, c.l, append(slices.Clone(marks), m, m), want)
				audits(t, "hand-made, of no records", key, nil, append(slices.Clone(marks), m), want)
			}
		}
	}
}

// P16.3: the chapter's examples.
func TestExamples(t *testing.T) {
	key := keyOf(7)
	a, b := none().puts(t, "a", "b"), none().puts(t, "a", "x")
	for _, l := range [][]api.Record{nil, a.l[:2], a.l, b.l} {
		audits(t, "two sealed marks of Seq 3 with other chains", key, l, sealed(key, a.heads[3], b.heads[3]), fork(0, 1))
	}
	audits(t, "a catalogue of two records, a mark of Seq 3", key, a.l[:2], sealed(key, a.heads[3]), short(0))
	// DOC.md's example 10.
	long := none().puts(t, "a", "b", "c", "d", "e", "f")
	audits(t, "a checkpoint of 7, a catalogue of 5", key, long.l[:5], sealed(key, long.heads[7]), short(0))
}
