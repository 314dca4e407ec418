package archive_test

import (
	"math"
	"testing"

	"saltern/api"
	"saltern/record"
)

// P17.2

func TestVow(t *testing.T) {
	d := diskOf(t, 20)
	a := opened(t, d, conf(8))
	fused(t, d, 0)
	ends(t, "Vow of the promise", a.Vow(0), api.OK)
	fused(t, d, -1)
	last := 0
	for _, n := range []int{1, 2, 3, 7, 8, 1000, 1<<30 - 1, 1 << 30} {
		for _, below := range []int{math.MinInt, -1, last - 1} {
			ends(t, "Vow below the promise", a.Vow(below), api.ErrVow)
		}
		if a.Promise() != last {
			t.Fatalf("Promise: %d, not %d", a.Promise(), last)
		}
		ends(t, "Vow", a.Vow(n), api.OK)
		last = n
		fused(t, d, 0)
		ends(t, "Vow of the promise", a.Vow(n), api.OK)
		if again := opened(t, d, conf(8)); a.Promise() != n || again.Promise() != n {
			t.Fatalf("Promise: %d, opened anew %d, not %d", a.Promise(), again.Promise(), n)
		}
		fused(t, d, -1)
	}
	for _, above := range []int{1<<30 + 1, 1 << 32, math.MaxInt} {
		ends(t, "Vow of no epoch", a.Vow(above), api.ErrVow)
	}
	if a.Head() != (api.Head{}) || a.Promise() != 1<<30 {
		t.Errorf("%v, %d", a.Head(), a.Promise())
	}
}

func TestLead(t *testing.T) {
	d := diskOf(t, 20)
	a := opened(t, d, conf(8))
	var want []api.Record
	leads := func(epoch, site int, e api.Errno) {
		t.Helper()
		if e == api.OK {
			want = rowOf(t, append(want, lead(epoch, site))...)
		}
		ends(t, "Lead", a.Lead(epoch, site), e)
		tellsRecords(t, a, want)
	}
	leads(0, 0, api.ErrRecord) // it is the promise, and no epoch
	leads(1, 0, api.ErrVow)
	ends(t, "Vow", a.Vow(3), api.OK)
	for _, epoch := range []int{math.MinInt, -3, 0, 1, 2, 4, 1 << 30, 1<<30 + 1, math.MaxInt} {
		leads(epoch, 0, api.ErrVow)
		leads(epoch, 2, api.ErrVow)
	}
	for _, site := range []int{math.MinInt, -1, 2, 256, math.MaxInt} {
		leads(3, site, api.ErrRecord)
	}
	leads(3, 1, api.OK)
	leads(3, 1, api.ErrChain)
	leads(3, 0, api.ErrChain)
	leads(3, 2, api.ErrRecord)
	ends(t, "Vow", a.Vow(4), api.OK)
	leads(3, 1, api.ErrVow)
	leads(4, 0, api.OK)
	ends(t, "Vow", a.Vow(1<<30), api.OK)
	leads(1<<30, 0, api.OK)
	leads(1<<30, 0, api.ErrChain)
	fused(t, d, 0) // all lasts, so there is nothing to write
	tellsRecords(t, opened(t, d, conf(8)), want)
}

// An epoch that a record of elsewhere began is led no more, though it was vowed.
func TestLeadOfAnEpochThatIsThere(t *testing.T) {
	a := opened(t, diskOf(t, 20), conf(8))
	ends(t, "Vow", a.Vow(3), api.OK)
	row := rowOf(t, lead(3, 1))
	ends(t, "Take", a.Take(row[0]), api.OK)
	ends(t, "Lead", a.Lead(3, 0), api.ErrChain)
	row = rowOf(t, append(row, lead(5, 1))...)
	ends(t, "Take", a.Take(row[1]), api.OK) // above the promise
	ends(t, "Lead", a.Lead(3, 0), api.ErrChain)
	if a.Promise() != 3 {
		t.Errorf("Promise: %d", a.Promise())
	}
	tellsRecords(t, a, row)
}

func TestLeadWithoutRoom(t *testing.T) {
	a := opened(t, diskOf(t, 20), conf(4))
	for epoch := 1; epoch <= 2; epoch++ {
		ends(t, "Vow", a.Vow(epoch), api.OK)
		ends(t, "Lead", a.Lead(epoch, 0), api.OK)
	}
	ends(t, "Vow", a.Vow(3), api.OK)
	was := state(t, a)
	ends(t, "Lead", a.Lead(3, 0), api.ErrFull)
	ends(t, "Lead", a.Lead(3, 2), api.ErrRecord)
	ends(t, "Lead", a.Lead(2, 0), api.ErrVow)
	if state(t, a) != was {
		t.Errorf("%s\nnot\n%s", state(t, a), was)
	}
}

// Lead changes no file.
func TestLeadLeavesFiles(t *testing.T) {
	_, a := led(t, 40, conf(14))
	puts(t, a, "a", text(1, 400))
	ends(t, "Vow", a.Vow(4), api.OK)
	was := filesState(t, a)
	ends(t, "Lead", a.Lead(4, 0), api.OK)
	if now := filesState(t, a); now != was {
		t.Errorf("%s\nnot\n%s", now, was)
	}
	r, e := a.At(3)
	if e != api.OK || !record.Same(r, rowOf(t, append(records(t, a)[:2], lead(4, 0))...)[2]) {
		t.Errorf("%v, %d", r, e)
	}
	if h := puts(t, a, "b", nil); h.Epoch != 4 || h.Seq != 4 {
		t.Errorf("%v", h)
	}
}
