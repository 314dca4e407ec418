package record_test

import (
	"math"
	"slices"
	"testing"

	"saltern/api"
	"saltern/record"
)

// P13.3 asks for Next at a head: that of the record, or an error and nothing beside it.
func next(t *testing.T, what string, h api.Head, r api.Record, want api.Errno) {
	t.Helper()
	was, head := copyOf(r), api.Head{}
	if want == api.OK {
		head = headOf(r)
	}
	if got, e := record.Next(h, r); got != head || e != want {
		t.Errorf("%s: %v, %d, not %v, %d", what, got, e, head, want)
	}
	if !alike(r, was) {
		t.Errorf("%s: the argument changed", what)
	}
}

// ahead is the head that a record of those from help_test.go follows, of an epoch.
func ahead(epoch int) api.Head {
	return api.Head{Seq: 1, Epoch: epoch, Chain: api.Digest{7, 31: 8}}
}

// wordedNext is the error of Next, read once more.
func wordedNext(h api.Head, r api.Record) api.Errno {
	switch {
	case !wordedMay(r):
		return 130
	case r.Seq != h.Seq+1 || r.Prev != h.Chain:
		return 131
	case r.Kind == 1 && r.Epoch <= h.Epoch || r.Kind != 1 && r.Epoch != h.Epoch:
		return 131
	}
	return 0
}

// P13.3
func TestNext(t *testing.T) {
	for _, r := range []api.Record{lead(0), lead(1)} {
		next(t, "an Epoch greater by one", ahead(2), r, api.OK)
		next(t, "an Epoch greater by two", ahead(1), r, api.OK)
		next(t, "the first Epoch", ahead(0), r, api.OK)
		next(t, "an Epoch that stays", ahead(3), r, api.ErrChain)
		next(t, "an Epoch that falls", ahead(4), r, api.ErrChain)
		next(t, "an Epoch that falls far", ahead(1<<30), r, api.ErrChain)
		far := changed(r, func(r *api.Record) { r.Epoch = 1 << 30 })
		next(t, "the greatest Epoch", ahead(1<<30-1), far, api.OK)
		next(t, "an Epoch that is far greater", ahead(1), far, api.OK)
		next(t, "the greatest Epoch stays", ahead(1<<30), far, api.ErrChain)
	}
	for _, r := range []api.Record{put("a"), put("a", sized(1, 2)...), del("a")} {
		next(t, "the same Epoch", ahead(3), r, api.OK)
		next(t, "an Epoch that rises", ahead(2), r, api.ErrChain)
		next(t, "an Epoch that falls", ahead(4), r, api.ErrChain)
		next(t, "ahead of any RLead", ahead(0), r, api.ErrChain)
	}
}

// P13.3: the zero head.
func TestNextOfTheZeroHead(t *testing.T) {
	for _, epoch := range []int{1, 2, 1 << 30} {
		for site := range 2 {
			r := api.Record{Seq: 1, Epoch: epoch, Kind: api.RLead, Site: site}
			next(t, "RLead", api.Head{}, r, api.OK)
			next(t, "RLead of Seq 2", api.Head{}, changed(r, func(r *api.Record) { r.Seq = 2 }), api.ErrChain)
			next(t, "RLead with a Prev", api.Head{}, changed(r, func(r *api.Record) { r.Prev[31] = 1 }), api.ErrChain)
		}
	}
	next(t, "RLead of Epoch 0", api.Head{}, api.Record{Seq: 1, Kind: api.RLead}, api.ErrRecord)
	for _, kind := range []api.RecordKind{api.RPut, api.RDelete} {
		next(t, "ahead of any RLead", api.Head{}, api.Record{Seq: 1, Epoch: 1, Kind: kind, Path: "a"}, api.ErrChain)
		next(t, "of Epoch 0", api.Head{}, api.Record{Seq: 1, Kind: kind, Path: "a"}, api.ErrRecord)
	}
}

// P13.3: another Seq, another Prev, each byte of it.
func TestNextOfAnotherSeqOrPrev(t *testing.T) {
	for _, r := range []api.Record{lead(0), put("a", sized(5)...), del("a")} {
		h := ahead(3)
		if r.Kind == api.RLead {
			h.Epoch = 2
		}
		next(t, "it follows", h, r, api.OK)
		for _, seq := range []int{1, 3, 4, 1 << 30} {
			next(t, "another Seq", h, changed(r, func(r *api.Record) { r.Seq = seq }), api.ErrChain)
		}
		for i := range r.Prev {
			next(t, "another Prev", h, changed(r, func(r *api.Record) { r.Prev[i] ^= 1 }), api.ErrChain)
			other := h
			other.Chain[i] ^= 128
			next(t, "another Chain", other, r, api.ErrChain)
		}
		next(t, "Prev zero", h, changed(r, func(r *api.Record) { r.Prev = api.Digest{} }), api.ErrChain)
	}
}

// P13.3: the last Seq that may be.
func TestNextOfTheLastSeq(t *testing.T) {
	h := api.Head{Seq: 1<<30 - 1, Epoch: 3, Chain: api.Digest{7, 31: 8}}
	r := changed(del("a"), func(r *api.Record) { r.Seq = 1 << 30 })
	next(t, "the last one", h, r, api.OK)
	r.Seq, h.Seq = 1<<30+1, 1<<30
	next(t, "one more", h, r, api.ErrRecord)
	r.Seq = 1 << 30
	next(t, "the last one again", h, r, api.ErrChain)
}

// P13.3: heads that no record has.
func TestNextOfHandMadeHeads(t *testing.T) {
	for _, seq := range extremes() {
		for _, epoch := range extremes() {
			h := api.Head{Seq: seq, Epoch: epoch, Chain: api.Digest{7, 31: 8}}
			for _, r := range []api.Record{lead(0), put("a"), del("a")} {
				want := api.ErrChain
				if seq == 1 && (r.Kind == api.RLead && epoch < 3 || r.Kind != api.RLead && epoch == 3) {
					want = api.OK
				}
				next(t, "a head that was made by hand", h, r, want)
			}
		}
	}
}

// P13.3: ErrRecord is named first, whether it would follow or not.
func TestNextOfRecordsThatMayNotBe(t *testing.T) {
	for _, c := range bad() {
		next(t, c.what, ahead(3), c.r, api.ErrRecord)
		next(t, c.what, ahead(2), c.r, api.ErrRecord)
		next(t, c.what, api.Head{}, c.r, api.ErrRecord)
		next(t, c.what, api.Head{Seq: c.r.Seq - 1, Epoch: c.r.Epoch, Chain: c.r.Prev}, c.r, api.ErrRecord)
		next(t, c.what, api.Head{Seq: c.r.Seq - 1, Epoch: 0, Chain: c.r.Prev}, c.r, api.ErrRecord)
	}
}

// P13.3: the records that may be, each behind the head that it says.
func TestNextOfRecordsThatMayBe(t *testing.T) {
	for _, c := range good() {
		h := api.Head{Seq: c.r.Seq - 1, Epoch: c.r.Epoch, Chain: c.r.Prev}
		if c.r.Kind == api.RLead {
			h.Epoch--
		}
		next(t, c.what, h, c.r, api.OK)
		h.Seq--
		next(t, c.what, h, c.r, api.ErrChain)
	}
}

// walks asks for Walk of records that follow up to a place.
func walks(t *testing.T, what string, h api.Head, l []api.Record, place int, want api.Errno) {
	t.Helper()
	head := h
	if place > 0 {
		head = headOf(l[place-1])
	}
	if got, n, e := record.Walk(h, l...); got != head || n != place || e != want {
		t.Errorf("%s: %v, %d, %d, not %v, %d, %d", what, got, n, e, head, place, want)
	}
}

// P13.3
func TestWalk(t *testing.T) {
	c := chance(6)
	for n := range 40 {
		l := c.row(t, n)
		walks(t, "all follow", api.Head{}, l, n, api.OK)
		// From within: what is behind follows what is ahead.
		for k := 1; k < n; k++ {
			walks(t, "from within", headOf(l[k-1]), l[k:], n-k, api.OK)
			walks(t, "from another place", api.Head{}, l[k:], 0, api.ErrChain)
			walks(t, "one left out", api.Head{}, slices.Delete(slices.Clone(l), k-1, k), k-1, api.ErrChain)
			walks(t, "one twice", api.Head{}, slices.Insert(slices.Clone(l), k, l[k-1]), k, api.ErrChain)
		}
	}
}

// P13.3: of none the head that was handed in, whatever it is.
func TestWalkOfNone(t *testing.T) {
	for _, h := range []api.Head{{}, ahead(3), {Seq: -1, Epoch: math.MinInt, Chain: api.Digest{1}}, {Seq: math.MaxInt}} {
		walks(t, "none", h, nil, 0, api.OK)
		walks(t, "none", h, []api.Record{}, 0, api.OK)
	}
}

// P13.3: the first, a middle and the last one, which does not follow or may not be.
func TestWalkUpToTheFirstThatDoesNotFollow(t *testing.T) {
	c := chance(7)
	for n := 1; n < 12; n++ {
		l := c.row(t, n)
		for k := range l {
			h := headAhead(l, k)
			for _, f := range []struct {
				what string
				by   func(r *api.Record)
			}{
				{"another Prev", func(r *api.Record) { r.Prev[9]++ }},
				{"another Seq", func(r *api.Record) { r.Seq++ }},
				{"RLead of an Epoch that stays, or another one's that rises", func(r *api.Record) {
					if r.Kind == api.RLead {
						r.Epoch = h.Epoch
					} else {
						r.Epoch++
					}
				}},
				{"Seq 0", func(r *api.Record) { r.Seq = 0 }},
				{"Epoch below 0", func(r *api.Record) { r.Epoch = -1 }},
				{"kind 0", func(r *api.Record) { r.Kind = 0 }},
				{"another Prev and kind 9", func(r *api.Record) { r.Prev[0]++; r.Kind = 9 }},
				{"site 2", func(r *api.Record) { r.Site = 2 }},
			} {
				m := slices.Clone(l)
				f.by(&m[k])
				want := wordedNext(h, m[k])
				if want == api.OK {
					t.Fatalf("%s: it follows", f.what)
				}
				walks(t, f.what, api.Head{}, m, k, want)
				// What is behind the first one at fault does not count.
				if k+1 < n {
					m[n-1] = api.Record{}
					walks(t, f.what, api.Head{}, m, k, want)
				}
			}
		}
	}
}

// headAhead is the head that the record at a place follows.
func headAhead(l []api.Record, k int) api.Head {
	if k == 0 {
		return api.Head{}
	}
	return headOf(l[k-1])
}

// makes asks for Make of a record at a head.
func makes(t *testing.T, what string, h api.Head, r, want api.Record, wantE api.Errno) {
	t.Helper()
	was := copyOf(r)
	got, e := record.Make(h, r)
	if !alike(got, want) || e != wantE {
		t.Errorf("%s: %s, %d, not %s, %d", what, short(got), e, short(want), wantE)
	}
	if !alike(r, was) {
		t.Errorf("%s: the argument changed", what)
	}
	if e == api.OK {
		next(t, what, h, got, api.OK)
	}
}

// P13.4: Seq, Prev and, but of RLead, Epoch are the head's, whatever was handed in.
func TestMake(t *testing.T) {
	h := ahead(3)
	for _, c := range []api.Record{put("a"), put("a", sized(1, 2)...), del("a"), put("b", many(4096, 256)...)} {
		for _, n := range extremes() {
			r := changed(c, func(r *api.Record) { r.Seq, r.Epoch, r.Prev = n, n, api.Digest{byte(n)} })
			makes(t, "behind a head", h, r, c, api.OK)
		}
	}
	for site := range 2 {
		want := lead(site)
		for _, n := range extremes() {
			r := changed(want, func(r *api.Record) { r.Seq, r.Prev = n, api.Digest{byte(n)} })
			makes(t, "RLead of its own epoch", ahead(2), r, want, api.OK)
			makes(t, "RLead of its own epoch", ahead(0), r, want, api.OK)
		}
	}
}

// P13.4: an RLead keeps its Epoch: it must be greater.
func TestMakeOfRLead(t *testing.T) {
	for _, c := range []struct {
		from, to int
		want     api.Errno
	}{
		{0, 1, 0}, {0, 2, 0}, {0, 1 << 30, 0}, {1, 2, 0}, {5, 9, 0}, {1<<30 - 1, 1 << 30, 0},
		{1, 1, 131}, {2, 1, 131}, {1 << 30, 1 << 30, 131}, {1 << 30, 1, 131},
		{0, 0, 130}, {0, -1, 130}, {3, 0, 130}, {1 << 30, 1<<30 + 1, 130}, {0, 1<<30 + 1, 130}, {-5, -4, 130}, {0, math.MaxInt, 130}, {0, math.MinInt, 130},
	} {
		h := ahead(c.from)
		want := api.Record{}
		if c.want == 0 {
			want = api.Record{Seq: 2, Epoch: c.to, Prev: h.Chain, Kind: api.RLead, Site: 1}
		}
		makes(t, "RLead", h, api.Record{Epoch: c.to, Kind: api.RLead, Site: 1}, want, c.want)
	}
	makes(t, "the first one", api.Head{}, api.Record{Epoch: 2, Kind: api.RLead}, api.Record{Seq: 1, Epoch: 2, Kind: api.RLead}, api.OK)
}

// P13.4: ahead of any RLead a record has the Epoch 0, so it may not be.
func TestMakeAheadOfAnyRLead(t *testing.T) {
	for _, r := range []api.Record{put("a"), del("a"), {Kind: api.RDelete, Path: "a"}, {Kind: api.RPut, Path: "a"}} {
		makes(t, "the zero head", api.Head{}, r, api.Record{}, api.ErrRecord)
	}
}

// P13.4: at the last Seq, and at heads that no record has.
func TestMakeAtOtherHeads(t *testing.T) {
	last := api.Head{Seq: 1<<30 - 1, Epoch: 3, Chain: api.Digest{4}}
	makes(t, "the last one", last, del("a"), api.Record{Seq: 1 << 30, Epoch: 3, Prev: api.Digest{4}, Kind: api.RDelete, Path: "a"}, api.OK)
	for _, seq := range extremes() {
		for _, epoch := range extremes() {
			h := api.Head{Seq: seq, Epoch: epoch, Chain: api.Digest{9}}
			for _, r := range []api.Record{lead(1), put("a", sized(7)...), del("b")} {
				want := changed(r, func(r *api.Record) { r.Seq, r.Prev = h.Seq+1, h.Chain })
				if r.Kind != api.RLead {
					want.Epoch = epoch
				}
				wantE := api.ErrRecord
				if wordedMay(want) {
					wantE = wordedNext(h, want)
				}
				if wantE != api.OK {
					want = api.Record{}
				}
				makes(t, "another head", h, r, want, wantE)
			}
		}
	}
}

// P13.4: what may not be for another reason than Seq and Epoch stays so.
func TestMakeOfRecordsThatMayNotBe(t *testing.T) {
	for _, c := range bad() {
		want := changed(c.r, func(r *api.Record) { r.Seq, r.Prev = 2, ahead(3).Chain })
		if c.r.Kind != api.RLead {
			want.Epoch = 3
		}
		wantE := wordedNext(ahead(3), want)
		if wantE != api.OK {
			want = api.Record{}
		}
		makes(t, c.what, ahead(3), c.r, want, wantE)
	}
	makes(t, "site 2 and an Epoch that stays", ahead(3), lead(2), api.Record{}, api.ErrRecord)
	makes(t, "no path, ahead of any RLead", api.Head{}, del(""), api.Record{}, api.ErrRecord)
}

// Rule 4: what Make tells shares no pieces with what was handed in.
func TestMadeRecordsAreNew(t *testing.T) {
	r := put("a", sized(1, 2, 3)...)
	want := copyOf(r)
	first, _ := record.Make(ahead(3), r)
	second, _ := record.Make(ahead(3), r)
	r.Pieces[0] = api.Piece{}
	first.Pieces[1] = api.Piece{}
	if !alike(second, want) || first.Pieces[0] != want.Pieces[0] || r.Pieces[1] != want.Pieces[1] {
		t.Errorf("%s, %s, %s share pieces", short(r), short(first), short(second))
	}
}

// rechained is a row of which the record at a place is another one, and all behind it are laid on it anew.
func rechained(t *testing.T, l []api.Record, k int, r api.Record) []api.Record {
	t.Helper()
	m := append(slices.Clone(l[:k]), r)
	h := headOf(r)
	for _, x := range l[k+1:] {
		made, e := record.Make(h, x)
		if e != api.OK {
			t.Fatalf("%s: %d", short(x), e)
		}
		m, h = append(m, made), headOf(made)
	}
	return m
}

// P13.6: whatever one changes in a record that still follows, the head behind all is another one.
func TestOneChain(t *testing.T) {
	c := chance(8)
	for n := 2; n < 10; n++ {
		l := c.row(t, n)
		whole, _, _ := record.Walk(api.Head{}, l...)
		for k := range l {
			for i, by := range []func(r *api.Record){
				func(r *api.Record) { r.Kind, r.Site, r.Path, r.Pieces = api.RDelete, 0, r.Path+"x", nil },
				func(r *api.Record) { r.Kind, r.Site, r.Path = api.RPut, 0, r.Path+"x" },
				func(r *api.Record) { r.Pieces = append(slices.Clone(r.Pieces), sized(1)...) },
				func(r *api.Record) { r.Site = 1 - r.Site },
				func(r *api.Record) { r.Epoch++ },
				func(r *api.Record) {
					if len(r.Pieces) > 0 {
						r.Pieces = slices.Clone(r.Pieces)
						r.Pieces[0].D[31]++
					}
				},
			} {
				r := changed(l[k], by)
				if alike(r, l[k]) || wordedNext(headAhead(l, k), r) != api.OK {
					continue
				}
				if r.Epoch != l[k].Epoch && slices.ContainsFunc(l[k+1:], func(x api.Record) bool { return x.Kind == api.RLead }) {
					continue // a later epoch may not be greater any more
				}
				m := rechained(t, l, k, r)
				got, _, e := record.Walk(api.Head{}, m...)
				if e != api.OK || got.Chain == whole.Chain {
					t.Errorf("change %d at %d of %d: %d, %v and %v", i, k, n, e, got, whole)
				}
			}
		}
	}
}

// P13.6: among many rows of few unlike records those with one head are alike.
func TestRowsWithOneHeadAreAlike(t *testing.T) {
	c := chance(9)
	heads := map[api.Head][]api.Record{}
	met := 0
	for range 4000 {
		l := fewRow(t, &c, 1+c.below(4))
		h, n, e := record.Walk(api.Head{}, l...)
		if e != api.OK || n != len(l) {
			t.Fatalf("%d records: %d, %d", len(l), n, e)
		}
		if other, ok := heads[h]; ok {
			met++
			if !slices.EqualFunc(other, l, alike) {
				t.Errorf("%d and %d records have one head", len(other), len(l))
			}
		}
		heads[h] = l
	}
	if met < 100 || len(heads) < 100 {
		t.Errorf("%d met, %d heads", met, len(heads))
	}
}

// fewRow is a row of records of which there are few unlike ones.
func fewRow(t *testing.T, c *chance, n int) []api.Record {
	t.Helper()
	kinds := []api.Record{
		{Kind: api.RLead}, {Kind: api.RLead, Site: 1},
		{Kind: api.RDelete, Path: "a"}, {Kind: api.RPut, Path: "a"}, {Kind: api.RPut, Path: "a", Pieces: sized(1)}, {Kind: api.RPut, Path: "ab"},
	}
	l, h := []api.Record{}, api.Head{}
	for len(l) < n {
		r := kinds[c.below(len(kinds))]
		if len(l) == 0 {
			r = kinds[c.below(2)]
		}
		if r.Kind == api.RLead {
			r.Epoch = h.Epoch + 1 + c.below(2)
		}
		made, e := record.Make(h, r)
		if e != api.OK {
			t.Fatal(e)
		}
		l = append(l, made)
		h, e = record.Next(h, made)
		if e != api.OK {
			t.Fatal(e)
		}
	}
	return l
}

// P13.7: of records with any epochs those that are taken never fall, and rise just at RLead.
func TestEpochsRise(t *testing.T) {
	c := chance(10)
	for range 200 {
		h := api.Head{}
		taken, refused := 0, 0
		for range 200 {
			r := c.content(api.Record{Seq: h.Seq + 1, Prev: h.Chain, Epoch: h.Epoch + c.below(5) - 2})
			after, e := record.Next(h, r)
			if want := wordedNext(h, r); e != want {
				t.Fatalf("%s at %v: %d, not %d", short(r), h, e, want)
			}
			if e != api.OK {
				refused++
				continue
			}
			taken++
			if rises := after.Epoch > h.Epoch; after.Epoch < h.Epoch || rises != (r.Kind == api.RLead) || after.Epoch != r.Epoch || after.Seq != h.Seq+1 {
				t.Errorf("%v from %v to %v", r.Kind, h, after)
			}
			h = after
		}
		if taken < 10 || refused < 10 {
			t.Errorf("%d taken, %d refused", taken, refused)
		}
	}
}

// P13.7: so it is along what Make tells.
func TestEpochsRiseOfMadeRecords(t *testing.T) {
	c := chance(11)
	for range 100 {
		h := api.Head{}
		for range 100 {
			r, e := record.Make(h, c.content(api.Record{Epoch: h.Epoch + c.below(4) - 1}))
			if e != api.OK {
				continue
			}
			if r.Epoch < h.Epoch || (r.Epoch > h.Epoch) != (r.Kind == api.RLead) {
				t.Errorf("%s behind %v", short(r), h)
			}
			h = headOf(r)
		}
		if h.Seq < 10 {
			t.Errorf("%d records alone", h.Seq)
		}
	}
}
