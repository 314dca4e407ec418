package mac

import (
	"crypto/hmac"
	"crypto/sha256"
	"reflect"
	"testing"
	"unsafe"

	"saltern/api"
	"saltern/sha"
)

// count is where a Hash counts its bytes: to write so many as are too many is beyond a test's time.
func count(t *testing.T, h *sha.Hash) *uint64 {
	t.Helper()
	f, ok := reflect.TypeFor[sha.Hash]().FieldByName("n")
	if !ok || f.Type.Kind() != reflect.Uint64 {
		t.Fatal("a Hash has no count n")
	}
	return (*uint64)(unsafe.Add(unsafe.Pointer(h), f.Offset))
}

func sumOf(t *testing.T, m *Mac) api.Digest {
	t.Helper()
	d, e := m.Sum()
	if e != api.OK {
		t.Fatalf("Sum: %d", e)
	}
	return d
}

// P4.3

func TestTheBlockCountsToo(t *testing.T) {
	m := New([]byte("key"))
	if n := *count(t, &m.inner); n != 64 {
		t.Errorf("%d bytes ahead of all", n)
	}
}

func TestWriteThatTheHashRefuses(t *testing.T) {
	m := New([]byte("key"))
	*count(t, &m.inner) = api.MaxSha - 64
	was := sumOf(t, m)
	for _, k := range []int{65, 66, 200} {
		if e := m.Write(make([]byte, k)); e != api.ErrLong {
			t.Errorf("%d bytes: %d", k, e)
		}
	}
	if sumOf(t, m) != was {
		t.Error("a Write that was refused changed the MAC")
	}
	if e := m.Write(make([]byte, 64)); e != api.OK {
		t.Errorf("just as many as may be: %d", e)
	}
	is := sumOf(t, m)
	if is == was {
		t.Error("the last bytes changed nothing")
	}
	if e := m.Write([]byte{1}); e != api.ErrLong {
		t.Errorf("one behind the most: %d", e)
	}
	if e := m.Write(nil); e != api.OK || sumOf(t, m) != is {
		t.Errorf("none behind the most: %d", e)
	}
}

func TestNobodysMacIsNamedFirst(t *testing.T) {
	m := &Mac{}
	*count(t, &m.inner) = api.MaxSha
	if e := m.Write([]byte{1}); e != api.ErrNil {
		t.Errorf("Write: %d", e)
	}
}

// What holds everywhere.

func TestACopyByAssignmentGoesOnAlone(t *testing.T) {
	m := New([]byte("key"))
	m.Write([]byte("a"))
	c := *m
	m.Write([]byte("b"))
	c.Write([]byte("c"))
	for text, d := range map[string]api.Digest{"ab": sumOf(t, m), "ac": sumOf(t, &c)} {
		h := hmac.New(sha256.New, []byte("key"))
		h.Write([]byte(text))
		if d != api.Digest(h.Sum(nil)) {
			t.Errorf("%s: %x", text, d)
		}
	}
}
