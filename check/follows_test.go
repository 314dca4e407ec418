package check_test

import (
	"slices"
	"testing"

	"saltern/api"
	"saltern/check"
	"saltern/record"
)

// forest is catalogues that part from one another at many places; each with all its beginnings, and some with a record that does not follow.
func forest(t *testing.T, x *chance, trees, grow int) []catalogue {
	t.Helper()
	all := []catalogue{none()}
	for range trees {
		elder := all[x.below(len(all))]
		all = append(all, elder.any(t, x, 1+x.below(grow)))
	}
	return all
}

// P16.5: two catalogues that are chains and have a mark's head begin alike, up to its Seq; behind it they may part.
func TestAPrefix(t *testing.T) {
	x := chance(8)
	all := forest(t, &x, 40, 4)
	shared, parted := 0, 0
	for _, a := range all {
		for _, h := range a.heads {
			for _, b := range all {
				if !check.Has(b.l, h) {
					continue
				}
				if !check.Has(a.l, h) || len(b.l) < h.Seq || !slices.EqualFunc(a.l[:h.Seq], b.l[:h.Seq], record.Same) {
					t.Fatalf("%v of two catalogues that begin in two ways", h)
				}
				if h.Seq > 0 {
					shared++
				}
				if len(a.l) > h.Seq && len(b.l) > h.Seq && !record.Same(a.l[h.Seq], b.l[h.Seq]) {
					parted++
				}
			}
		}
	}
	if shared < 500 || parted < 100 {
		t.Errorf("%d shared, %d parted behind", shared, parted)
	}
}

// P16.5: two that part behind a mark's head are both good by it, and one that parts ahead of it is not.
func TestTwoThatPartBehindAMark(t *testing.T) {
	key := keyOf(7)
	for n := 1; n < 8; n++ {
		base := none().any(t, new(chance), n)
		a, b := base.leads(t, 90, 0).puts(t, "a"), base.leads(t, 90, 1).puts(t, "b")
		for k := range n + 1 {
			marks := sealed(key, base.heads[k])
			audits(t, "a", key, a.l, marks, good())
			audits(t, "b", key, b.l, marks, good())
		}
		audits(t, "ahead of a's mark", key, b.l, sealed(key, base.heads[n], a.heads[n+1]), other(1))
		audits(t, "ahead of b's mark", key, a.l, sealed(key, base.heads[n], b.heads[n+2]), other(1))
		audits(t, "both", key, a.l, sealed(key, a.heads[n+2], b.heads[n+2]), fork(0, 1))
		audits(t, "both, of other numbers", key, a.l, sealed(key, a.heads[n+2], b.heads[n+1]), other(1))
		audits(t, "both, of other numbers", key, b.l, sealed(key, b.heads[n+1], a.heads[n+2]), other(1))
	}
}

// hasAll tells whether a catalogue is a chain that has the heads of all marks.
func hasAll(l []api.Record, marks []api.Mark) bool {
	_, _, e := record.Walk(api.Head{}, l...)
	return e == api.OK && !slices.ContainsFunc(marks, func(m api.Mark) bool { return !wordedHas(l, m.Head) })
}

// P16.6: of sealed marks that no chain has all, no catalogue is good, whatever is overwritten in it; and each that has them all is.
func TestAForkIsFound(t *testing.T) {
	key := keyOf(7)
	x := chance(9)
	all := forest(t, &x, 12, 3)
	found := map[api.FindingKind]int{}
	for range 300 {
		var marks []api.Mark
		for range 1 + x.below(3) {
			c := all[x.below(len(all))]
			marks = append(marks, wordedMark(key, x.below(2), c.heads[x.below(len(c.heads))]))
		}
		for _, c := range all {
			l := c.l
			if len(l) > 0 && x.below(6) == 0 {
				l = spoilt(l, x.below(len(l)), faults()[x.below(6)])
			}
			f := check.Audit(key, l, marks...)
			found[f.Kind]++
			if (f == good()) != hasAll(l, marks) || f != wordedAudit(key, l, marks) {
				t.Errorf("%d records, marks %v: %v", len(l), marks, f)
			}
		}
	}
	for _, kind := range []api.FindingKind{api.FChain, api.FFork, api.FOther, api.FShort, api.FGood} {
		if found[kind] < 50 {
			t.Errorf("kind %d just %d times", kind, found[kind])
		}
	}
}

// P16.6: marks of other numbers that no chain can have both: the Epoch falls; it rises without a record between; a chain parts ahead.
func TestMarksOfNoChain(t *testing.T) {
	key := keyOf(7)
	x := chance(10)
	all := forest(t, &x, 30, 4)
	for _, pair := range [][2]api.Head{
		{{Seq: 2, Epoch: 5}, {Seq: 3, Epoch: 4}},
		{{Seq: 3, Epoch: 1, Chain: api.Digest{1}}, {Seq: 3, Epoch: 2, Chain: api.Digest{1}}},
		{{Seq: 1, Epoch: 1, Chain: api.Digest{1}}, {Seq: 1, Epoch: 1, Chain: api.Digest{2}}},
		{none().puts(t, "a").heads[2], none().puts(t, "b", "c").heads[3]},
		{none().puts(t, "a").heads[2], none().leads(t, 1, 1).heads[1]},
	} {
		for _, marks := range [][]api.Mark{sealed(key, pair[0], pair[1]), sealed(key, pair[1], pair[0])} {
			for _, c := range append(all, none().puts(t, "a", "b"), none().puts(t, "b", "c", "d"), none().leads(t, 1, 1).puts(t, "a")) {
				if f := check.Audit(key, c.l, marks...); f.Kind == api.FGood || f.Kind == 0 {
					t.Errorf("%v with %d records: %v", pair, len(c.l), f)
				}
			}
		}
	}
}

// P16.3: any few marks, some of which are not sealed, held against any catalogue, by the chapter's words.
func TestAuditOfAnything(t *testing.T) {
	key := keyOf(7)
	x := chance(11)
	all := forest(t, &x, 8, 3)
	found := map[api.FindingKind]int{}
	for range 6000 {
		var marks []api.Mark
		for range x.below(6) {
			c := all[x.below(len(all))]
			m := wordedMark(key, x.below(2), c.heads[x.below(len(c.heads))])
			switch x.below(30) {
			case 0:
				m = forged(m)
			case 1:
				m = wordedMark(key, m.Site, api.Head{Seq: m.Head.Seq, Epoch: m.Head.Epoch + 1, Chain: m.Head.Chain})
			case 2:
				m.Site = 1 - m.Site
			case 3:
				m.Head.Seq = x.below(9) - 3
			}
			marks = append(marks, m)
		}
		l := all[x.below(len(all))].l
		if len(l) > 0 && x.below(9) == 0 {
			l = spoilt(l, x.below(len(l)), faults()[x.below(6)])
		}
		want := wordedAudit(key, l, marks)
		found[want.Kind]++
		audits(t, "anything", key, l, marks, want)
	}
	for kind := api.FChain; kind <= api.FGood; kind++ {
		if found[kind] < 100 {
			t.Errorf("kind %d just %d times", kind, found[kind])
		}
	}
}

// Rule 5: the same arguments, the same finding.
func TestAuditTellsTheSameAgain(t *testing.T) {
	key := keyOf(7)
	x := chance(12)
	all := forest(t, &x, 10, 4)
	var marks []api.Mark
	for _, c := range all {
		marks = append(marks, sealed(key, c.heads...)...)
	}
	for _, c := range all {
		want := check.Audit(key, c.l, marks...)
		for range 20 {
			if f := check.Audit(key, c.l, marks...); f != want {
				t.Fatalf("%v, then %v", want, f)
			}
		}
	}
}
