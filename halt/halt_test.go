package halt_test

import (
	"testing"

	"saltern/api"
	"saltern/halt"
)

func TestCaught(t *testing.T) {
	if x, e := halt.Caught(func() int { return 7 }); x != 7 || e != api.OK {
		t.Errorf("%d, %d", x, e)
	}
	inner := func() int {
		x, e := halt.Caught(func() int { halt.On(api.ErrCode); return 1 })
		if x != 0 || e != api.ErrCode {
			t.Errorf("within: %d, %d", x, e)
		}
		return 9
	}
	if x, e := halt.Caught(inner); x != 9 || e != api.OK {
		t.Errorf("one within another: %d, %d", x, e)
	}
}

func TestOn(t *testing.T) {
	for _, want := range []api.Errno{api.OK, api.ErrArg, api.ErrMissing, -1} {
		went := false
		x, e := halt.Caught(func() int { halt.On(want); went = true; return 7 })
		if ok := want == api.OK; e != want || went != ok || (x == 7) != ok || (x == 0) == ok {
			t.Errorf("%d: %d, %d, %t", want, x, e, went)
		}
	}
}

func TestMust(t *testing.T) {
	for _, want := range []api.Errno{api.OK, api.ErrArg, api.ErrDark} {
		x, e := halt.Caught(func() int { return halt.Must(7, want) + 1 })
		if ok := want == api.OK; e != want || (x == 8) != ok || (x == 0) == ok {
			t.Errorf("%d: %d, %d", want, x, e)
		}
	}
}

func TestUnless(t *testing.T) {
	if x, e := halt.Caught(func() int { halt.Unless(true, api.ErrArg); return 7 }); x != 7 || e != api.OK {
		t.Errorf("%d, %d", x, e)
	}
	if x, e := halt.Caught(func() int { halt.Unless(false, api.ErrArg); return 7 }); x != 0 || e != api.ErrArg {
		t.Errorf("%d, %d", x, e)
	}
}

// A mistake of the program is no error of a call.
func TestCaughtLetsOtherPanicsPass(t *testing.T) {
	defer func() {
		if r := recover(); r != "a mistake" {
			t.Errorf("%v", r)
		}
	}()
	x, e := halt.Caught(func() int { panic("a mistake") })
	t.Errorf("%d, %d", x, e)
}
