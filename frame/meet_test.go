package frame_test

import (
	"bytes"
	"math"
	"testing"

	"saltern/api"
	"saltern/frame"
)

// wordedMeet is the chapter's Meet, word by word.
func wordedMeet(me, peer uint64, vow int, f api.Frame) api.Meet {
	var m api.Meet
	switch {
	case f.Me < peer:
		m.Stale = true
	case f.Me > peer:
		m.New = true
	}
	if f.You == me {
		m.Mine = true
	}
	m.Vow = vow
	if f.Epoch > vow {
		m.Vow = f.Epoch
	}
	if !m.Stale && m.Mine && f.Epoch >= vow {
		m.Take = true
	}
	return m
}

// meets asks for Meet.
func meets(t *testing.T, me, peer uint64, vow int, f api.Frame, want api.Meet) {
	t.Helper()
	was := with(f, func(f *api.Frame) { f.Body = bytes.Clone(f.Body) })
	if m := frame.Meet(me, peer, vow, f); m != want {
		t.Errorf("Meet of %d, %d, %d, %v: %v, not %v", me, peer, vow, was, m, want)
	}
	if m := wordedMeet(me, peer, vow, f); m != want {
		t.Errorf("Meet of %d, %d, %d, %v: by the words %v, not %v", me, peer, vow, was, m, want)
	}
	if !alike(f, was) {
		t.Errorf("%v was changed", was)
	}
}

// P18.3: each of the ways in which nonces and epochs stand to one another.
func TestMeet(t *testing.T) {
	const me, other = 5, 4
	for _, c := range []struct {
		what  string
		peer  uint64
		you   uint64
		epoch int
		want  api.Meet
	}{
		{"of a newer opening, the vow", 6, me, 3, api.Meet{New: true, Mine: true, Vow: 3, Take: true}},
		{"of a newer opening, a greater epoch", 6, me, 4, api.Meet{New: true, Mine: true, Vow: 4, Take: true}},
		{"of a newer opening, a smaller epoch", 6, me, 2, api.Meet{New: true, Mine: true, Vow: 3}},
		{"of a newer opening, not mine", 6, other, 3, api.Meet{New: true, Vow: 3}},
		{"of the first opening", 0, me, 3, api.Meet{New: true, Mine: true, Vow: 3, Take: true}},
		{"of the first opening, not mine, a greater epoch", 0, other, 4, api.Meet{New: true, Vow: 4}},
		{"of the same opening, the vow", 7, me, 3, api.Meet{Mine: true, Vow: 3, Take: true}},
		{"of the same opening, a greater epoch", 7, me, 9, api.Meet{Mine: true, Vow: 9, Take: true}},
		{"of the same opening, a smaller epoch", 7, me, 2, api.Meet{Mine: true, Vow: 3}},
		{"of the same opening, not mine", 7, other, 3, api.Meet{Vow: 3}},
		{"of the same opening, who does not know me", 7, 0, 4, api.Meet{Vow: 4}},
		{"of an elder opening, the vow", 8, me, 3, api.Meet{Stale: true, Mine: true, Vow: 3}},
		{"of an elder opening, a greater epoch", 8, me, 4, api.Meet{Stale: true, Mine: true, Vow: 4}},
		{"of an elder opening, a smaller epoch", 8, me, 2, api.Meet{Stale: true, Mine: true, Vow: 3}},
		{"of an elder opening, not mine", 8, other, 0, api.Meet{Stale: true, Vow: 3}},
	} {
		t.Run(c.what, func(t *testing.T) {
			f := api.Frame{Me: 7, You: c.you, Epoch: c.epoch}
			meets(t, me, c.peer, 3, f, c.want)
			// Nothing else of a frame counts.
			meets(t, me, c.peer, 3, with(f, func(f *api.Frame) { f.From, f.N, f.Body, f.All, f.More = 1, 7, row(40), 9, greatest }), c.want)
			meets(t, me, c.peer, 3, with(f, func(f *api.Frame) { f.From, f.N, f.Body, f.All = -1, -7, row(1<<19+1), 1<<30+1 }), c.want)
		})
	}
}

// P18.3: at all edges, of frames and sites that no call made, too.
func TestMeetAtTheEdges(t *testing.T) {
	nonces := []uint64{0, 1, 2, 1<<63 - 1, 1 << 63, greatest - 1, greatest}
	epochs := []int{math.MinInt, -1, 0, 1, 2, 1<<30 - 1, 1 << 30, 1<<30 + 1, math.MaxInt}
	for _, mine := range nonces {
		for _, peer := range nonces {
			for _, me := range nonces {
				for _, you := range nonces {
					for _, vow := range epochs {
						for _, epoch := range epochs {
							f := api.Frame{Me: me, You: you, Epoch: epoch}
							if m := frame.Meet(mine, peer, vow, f); m != wordedMeet(mine, peer, vow, f) {
								t.Fatalf("Meet of %d, %d, %d, %v: %v", mine, peer, vow, f, m)
							}
						}
					}
				}
			}
		}
	}
}

// P18.6: whatever comes, in whichever order, the vow never falls, it is the greatest epoch that came, and what is taken is of no epoch below it.
func TestAVowNeverFalls(t *testing.T) {
	c := chance(5)
	taken, below, rose := 0, 0, 0
	for range 300 {
		vow := c.below(5)
		least := vow
		me, peer := uint64(1+c.below(3)), uint64(c.below(3))
		for range 50 {
			f := c.frame()
			f.Me, f.You, f.Epoch = uint64(1+c.below(4)), uint64(c.below(4)), max(0, vow+2-c.below(8))
			m := frame.Meet(me, peer, vow, f)
			least = max(least, f.Epoch)
			if m.Vow < vow || m.Vow != least {
				t.Fatalf("a vow of %d behind %d, of epoch %d; the greatest was %d", m.Vow, vow, f.Epoch, least)
			}
			if m.Take {
				taken++
			}
			if f.Epoch < vow {
				below++
			}
			if m.Take && f.Epoch < vow || m.Take && f.Epoch != m.Vow {
				t.Fatalf("of epoch %d taken: the vow was %d, and is %d", f.Epoch, vow, m.Vow)
			}
			if m.Vow > vow {
				rose++
			}
			vow = m.Vow
			if m.New {
				peer = f.Me
			}
		}
	}
	if taken < 300 || below < 1000 || rose < 500 {
		t.Errorf("%d taken, %d below, %d rose", taken, below, rose)
	}
}

// P18.6: of frames that were sealed and opened, in rows that come doubled and in another order.
func TestAVowBehindOpenedFrames(t *testing.T) {
	key := row(9)
	c := chance(6)
	var sent [][]byte
	for epoch := range 12 {
		for from := range 2 {
			b, e := frame.Seal(key, api.Frame{From: from, Epoch: epoch * epoch, Me: uint64(1 + epoch/3), You: 5, N: epoch, Body: row(epoch)})
			if e != api.OK {
				t.Fatal(e)
			}
			sent = append(sent, b)
		}
	}
	for range 50 {
		vow, peer := 0, uint64(0)
		for range 60 {
			f, e := frame.Open(key, sent[c.below(len(sent))])
			if e != api.OK {
				t.Fatal(e)
			}
			want := wordedMeet(5, peer, vow, f)
			m := frame.Meet(5, peer, vow, f)
			if m != want || m.Vow < vow || m.Take && f.Epoch < vow {
				t.Fatalf("%v behind a vow of %d: %v, not %v", f, vow, m, want)
			}
			vow, peer = m.Vow, max(peer, f.Me)
		}
	}
}

// P18.6: at the greatest epoch it stands.
func TestTheGreatestVow(t *testing.T) {
	const most = 1 << 30
	for epoch, want := range map[int]api.Meet{
		most:     {Mine: true, Vow: most, Take: true},
		most - 1: {Mine: true, Vow: most},
		0:        {Mine: true, Vow: most},
	} {
		meets(t, greatest, greatest, most, api.Frame{Me: greatest, You: greatest, Epoch: epoch}, want)
	}
	meets(t, 1, 0, 0, api.Frame{Me: 1, You: 1, Epoch: most}, api.Meet{New: true, Mine: true, Vow: most, Take: true})
	meets(t, 1, 0, 0, api.Frame{Me: 1, You: 1}, api.Meet{New: true, Mine: true, Take: true})
}
