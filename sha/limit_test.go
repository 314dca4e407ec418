package sha

import (
	"crypto/sha256"
	"encoding"
	"encoding/binary"
	"testing"

	"saltern/api"
)

// full is a Hash as if n bytes had come, a number of whole blocks: to hash so many is beyond a test's time.
func full(n uint64) *Hash {
	h := New()
	h.n = n
	return h
}

// libraryAt is the digest that the library reckons from the same place on: the start's state, n bytes behind it, b to come.
func libraryAt(t *testing.T, n uint64, b []byte) api.Digest {
	t.Helper()
	h := sha256.New()
	m, err := h.(encoding.BinaryMarshaler).MarshalBinary()
	if err != nil {
		t.Fatal(err)
	}
	binary.BigEndian.PutUint64(m[len(m)-8:], n)
	if err := h.(encoding.BinaryUnmarshaler).UnmarshalBinary(m); err != nil {
		t.Fatal(err)
	}
	h.Write(b)
	return api.Digest(h.Sum(nil))
}

func sumOf(t *testing.T, h *Hash) api.Digest {
	t.Helper()
	d, e := h.Sum()
	if e != api.OK {
		t.Fatalf("Sum: %d", e)
	}
	return d
}

// P3.2

func TestWritePastTheMost(t *testing.T) {
	const n = api.MaxSha - 128
	b := make([]byte, 200)
	for i := range b {
		b[i] = byte(i)
	}
	h := full(n)
	for _, k := range []int{129, 130, 200} {
		if e := h.Write(b[:k]); e != api.ErrLong {
			t.Errorf("%d bytes: %d", k, e)
		}
	}
	if sumOf(t, h) != libraryAt(t, n, nil) {
		t.Error("a Write that was refused changed the digest")
	}
	if e := h.Write(b[:128]); e != api.OK {
		t.Fatalf("just as many as may be: %d", e)
	}
	for _, k := range []int{1, 64, 200} {
		if e := h.Write(b[:k]); e != api.ErrLong {
			t.Errorf("%d bytes behind the most: %d", k, e)
		}
	}
	if e := h.Write(nil); e != api.OK {
		t.Errorf("nothing behind the most: %d", e)
	}
	if sumOf(t, h) != libraryAt(t, n, b[:128]) {
		t.Error("the digest of the most bytes")
	}
}

func TestWriteUpToTheMostByPieces(t *testing.T) {
	const n = api.MaxSha - 64
	b := []byte("thirty-one bytes, then 33 of it")
	h := full(n)
	if e := h.Write(b); e != api.OK {
		t.Fatal(e)
	}
	c, e := h.Copy()
	if e != api.OK {
		t.Fatal(e)
	}
	if e := h.Write(make([]byte, 34)); e != api.ErrLong {
		t.Errorf("one past: %d", e)
	}
	if e := h.Write(make([]byte, 33)); e != api.OK {
		t.Errorf("up to the most: %d", e)
	}
	if e := c.Write(make([]byte, 34)); e != api.ErrLong {
		t.Errorf("a copy, one past: %d", e)
	}
	if sumOf(t, h) != libraryAt(t, n, append(b, make([]byte, 33)...)) || sumOf(t, c) != libraryAt(t, n, b) {
		t.Error("the digests")
	}
}

func TestNobodysHashIsNamedFirst(t *testing.T) {
	h := &Hash{n: api.MaxSha}
	if e := h.Write([]byte{1}); e != api.ErrNil {
		t.Errorf("Write: %d", e)
	}
}
