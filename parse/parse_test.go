package parse_test

import (
	"bytes"
	"math"
	"testing"

	"saltern/api"
	"saltern/parse"
)

// reads asks what reading some bytes answers, and how many are left then.
func reads[T comparable](t *testing.T, what string, b []byte, read func(r *parse.Rest) T, want T, left int) {
	t.Helper()
	r := parse.Of(b)
	x, e := parse.Caught(api.ErrArg, func() T { return read(&r) })
	if x != want || e != api.OK || r.Len() != left {
		t.Errorf("%s: %v, %d, %d left, not %v, %d left", what, x, e, r.Len(), want, left)
	}
}

// faults asks that reading some bytes is a fault, told as the error that was handed in, with nothing beside it.
func faults[T comparable](t *testing.T, what string, b []byte, read func(r *parse.Rest) T) {
	t.Helper()
	var zero T
	for _, want := range []api.Errno{api.ErrRecord, api.ErrCode} {
		r := parse.Of(b)
		if x, e := parse.Caught(want, func() T { return read(&r) }); x != zero || e != want {
			t.Errorf("%s: %v, %d, not %d", what, x, e, want)
		}
	}
}

func TestCaught(t *testing.T) {
	if x, e := parse.Caught(api.ErrRecord, func() int { parse.Need(true); return 7 }); x != 7 || e != api.OK {
		t.Errorf("%d, %d", x, e)
	}
	if x, e := parse.Caught(api.ErrRecord, func() int { parse.Need(false); return 7 }); x != 0 || e != api.ErrRecord {
		t.Errorf("%d, %d", x, e)
	}
	inner := func() int {
		x, e := parse.Caught(api.ErrCode, func() int { parse.Need(false); return 1 })
		parse.Need(x == 0 && e == api.ErrCode)
		return 9
	}
	if x, e := parse.Caught(api.ErrRecord, inner); x != 9 || e != api.OK {
		t.Errorf("one within another: %d, %d", x, e)
	}
}

// A mistake of the program is no fault of what it reads.
func TestCaughtLetsOtherPanicsPass(t *testing.T) {
	defer func() {
		if r := recover(); r != "a mistake" {
			t.Errorf("%v", r)
		}
	}()
	x, e := parse.Caught(api.ErrRecord, func() int { panic("a mistake") })
	t.Errorf("%d, %d", x, e)
}

func TestByte(t *testing.T) {
	read := func(r *parse.Rest) byte { return r.Byte() }
	reads(t, "one", []byte{5}, read, 5, 0)
	reads(t, "the first of three", []byte{255, 1, 2}, read, 255, 2)
	faults(t, "none", nil, read)
	faults(t, "a second one", []byte{5}, func(r *parse.Rest) byte { r.Byte(); return r.Byte() })
}

func TestNumber(t *testing.T) {
	upTo := func(most int) func(r *parse.Rest) int {
		return func(r *parse.Rest) int { return r.Number(most) }
	}
	reads(t, "0", []byte{0, 9}, upTo(0), 0, 1)
	reads(t, "300 of 300", []byte{0xac, 2}, upTo(300), 300, 0)
	reads(t, "300 of more", []byte{0xac, 2, 7}, upTo(math.MaxInt), 300, 1)
	faults(t, "300 of 299", []byte{0xac, 2}, upTo(299))
	faults(t, "1 of 0", []byte{1}, upTo(0))
	faults(t, "0 of less", []byte{0}, upTo(-1))
	faults(t, "1 of the least", []byte{1}, upTo(math.MinInt))
	faults(t, "the greatest of 64 bits", append(bytes.Repeat([]byte{255}, 9), 1), upTo(math.MaxInt))
	faults(t, "2^63", []byte{128, 128, 128, 128, 128, 128, 128, 128, 128, 1}, upTo(math.MaxInt))
	faults(t, "another form", []byte{0x81, 0}, upTo(300))
	faults(t, "the end within", []byte{0x81}, upTo(300))
	faults(t, "none", nil, upTo(300))
}

func TestTake(t *testing.T) {
	some := func(n int) func(r *parse.Rest) string {
		return func(r *parse.Rest) string { return string(r.Take(n)) }
	}
	reads(t, "none of none", nil, some(0), "", 0)
	reads(t, "two of three", []byte("abc"), some(2), "ab", 1)
	reads(t, "all", []byte("abc"), some(3), "abc", 0)
	faults(t, "four of three", []byte("abc"), some(4))
	faults(t, "fewer than none", []byte("abc"), some(-1))
	faults(t, "the most", []byte("abc"), some(math.MaxInt))
	reads(t, "one behind the other", []byte("abc"), func(r *parse.Rest) string { return string(r.Take(1)) + "," + string(r.Take(2)) }, "a,bc", 0)
}

func TestTakenBytesHaveABound(t *testing.T) {
	b := []byte("abc")
	r := parse.Of(b)
	if x := append(r.Take(1), 'x'); string(x) != "ax" || string(b) != "abc" {
		t.Errorf("%s, %s", x, b)
	}
}

func TestDigest(t *testing.T) {
	read := func(r *parse.Rest) api.Digest { return r.Digest() }
	b := make([]byte, 33)
	b[0], b[31], b[32] = 1, 2, 3
	reads(t, "one", b, read, api.Digest{1, 31: 2}, 1)
	faults(t, "a byte too few", b[:31], read)
	faults(t, "none", nil, read)
}
