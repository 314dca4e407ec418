package roll_test

import (
	"bytes"
	"fmt"
	"math"
	"math/big"
	"slices"
	"strings"
	"testing"

	"saltern/api"
	"saltern/roll"
)

// chance is numbers without a pattern, always the same ones.
type chance uint64

func (c *chance) below(n int) int {
	*c = *c*6364136223846793005 + 1442695040888963407
	return int(uint64(*c)>>33) % n
}

// row is n bytes without a pattern, of so many different ones.
func (c *chance) row(n, kinds int) []byte {
	b := make([]byte, n)
	for i := range b {
		b[i] = byte(c.below(kinds))
	}
	return b
}

func conf(least, most, bits int) api.RollConf {
	return api.RollConf{Least: least, Most: most, Bits: bits}
}

// confs are settings that may be, with those at the edges.
func confs() []api.RollConf {
	return []api.RollConf{
		conf(1, 1, 0), conf(1, 1, 20), conf(1, 2, 1), conf(1, 4096, 0), conf(1, 4096, 20), conf(1, 4096, 6),
		conf(2, 3, 0), conf(2, 3, 1), conf(7, 7, 3), conf(8, 256, 5), conf(64, 65, 1), conf(100, 1000, 7),
		conf(4095, 4096, 1), conf(4096, 4096, 0), conf(4096, 4096, 20),
	}
}

// wrong are settings that may not be.
func wrong() []api.RollConf {
	const highest, lowest = math.MaxInt, math.MinInt
	return []api.RollConf{
		{}, conf(0, 1, 0), conf(0, 0, 0), conf(0, 4096, 20), conf(-1, 8, 3), conf(lowest, 8, 3), conf(-1, -1, 0),
		conf(2, 1, 0), conf(8, 0, 3), conf(1, -1, 3), conf(4096, 4095, 3), conf(1, lowest, 3),
		conf(1, 4097, 3), conf(4097, 4097, 3), conf(4096, 4097, 3), conf(1, highest, 3), conf(highest, highest, 3),
		conf(1, 8, -1), conf(1, 8, 21), conf(1, 8, 64), conf(1, 8, 65), conf(1, 8, lowest), conf(1, 8, highest),
	}
}

// cut is a whole number modulo 2^64.
func cut(x *big.Int) *big.Int { return x.Mod(x, new(big.Int).Lsh(big.NewInt(1), 64)) }

func number(x uint64) *big.Int { return new(big.Int).SetUint64(x) }

// wordedGear is a byte's gear by the chapter's words, in numbers without bound.
func wordedGear(b byte) uint64 {
	x := cut(new(big.Int).Mul(big.NewInt(int64(b)+1), number(0x9e3779b97f4a7c15)))
	x = new(big.Int).Xor(x, new(big.Int).Rsh(x, 29))
	x = cut(x.Mul(x, number(0xbf58476d1ce4e5b9)))
	return x.Xor(x, new(big.Int).Rsh(x, 32)).Uint64()
}

// gears are those of all bytes, reckoned once.
var gears = func() (l [256]*big.Int) {
	for b := range l {
		l[b] = number(wordedGear(byte(b)))
	}
	return l
}()

// wordedHash is a hash behind bytes by the chapter's words.
func wordedHash(h uint64, b []byte) uint64 {
	x := number(h)
	for _, y := range b {
		x = cut(x.Add(x.Add(x, x), gears[y]))
	}
	return x.Uint64()
}

// wordedNext is the chunk that begins, by the chapter's words: its hash's bits are told as a text.
func wordedNext(c api.RollConf, b []byte) (int, bool) {
	h := uint64(0)
	for i, x := range b {
		h = wordedHash(h, []byte{x})
		n := i + 1
		if n == c.Most {
			return n, true
		}
		if n >= c.Least && strings.HasPrefix(fmt.Sprintf("%064b", h), strings.Repeat("0", c.Bits)) {
			return n, true
		}
	}
	return len(b), false
}

// wordedChunks are the chunks of b, and how many of them end.
func wordedChunks(c api.RollConf, b []byte) ([][]byte, int) {
	var l [][]byte
	ended := 0
	for len(b) > 0 {
		n, ends := wordedNext(c, b)
		l, b = append(l, b[:n]), b[n:]
		if ends {
			ended++
		}
	}
	return l, ended
}

func sizes(l [][]byte) []int {
	var n []int
	for _, b := range l {
		n = append(n, len(b))
	}
	return n
}

// rows are rows without a pattern and with one.
func rows() [][]byte {
	c := chance(8)
	return [][]byte{
		nil, {0}, {255}, []byte("1234567"), bytes.Repeat([]byte{0}, 300), bytes.Repeat([]byte{159}, 300), bytes.Repeat([]byte("ab"), 5000),
		c.row(63, 256), c.row(64, 256), c.row(65, 256), c.row(4095, 256), c.row(4096, 256), c.row(4097, 256), c.row(9000, 3), c.row(20000, 256),
	}
}

func made(t *testing.T, c api.RollConf) *roll.Cutter {
	t.Helper()
	k, e := roll.New(c)
	if k == nil || e != api.OK {
		t.Fatalf("New(%v): %v, %d", c, k, e)
	}
	return k
}

func write(t *testing.T, k *roll.Cutter, b []byte) [][]byte {
	t.Helper()
	l, e := k.Write(b)
	if e != api.OK {
		t.Fatalf("Write: %d", e)
	}
	return l
}

func closed(t *testing.T, k *roll.Cutter) []byte {
	t.Helper()
	b, e := k.Close()
	if e != api.OK || k.Left() != 0 {
		t.Fatalf("Close: %d, %d are left", e, k.Left())
	}
	return b
}

// inPieces are the chunks of b that a cutter tells, if it comes in pieces of the sizes that next tells.
func inPieces(t *testing.T, k *roll.Cutter, b []byte, next func() int) [][]byte {
	t.Helper()
	var l [][]byte
	told := 0
	for at := 0; at < len(b); {
		n := min(next(), len(b)-at)
		for _, x := range write(t, k, b[at:at+n]) {
			l = append(l, x)
			told += len(x)
		}
		at += n
		if k.Left() != at-told {
			t.Fatalf("behind %d bytes, of which %d are told: %d are left", at, told, k.Left())
		}
	}
	if last := closed(t, k); len(last) > 0 {
		l = append(l, last)
	}
	return l
}

func alike(a, b [][]byte) bool { return slices.EqualFunc(a, b, bytes.Equal) }
