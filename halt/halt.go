// Package halt ends calls one behind the other by the first error among them, for the layers whose own calls make many.
package halt

import "saltern/api"

// halted is what is panicked with: the error that ended the calls.
type halted struct{ e api.Errno }

// On ends them where one told an error. It and all that follows but Caught may be called within Caught alone.
func On(e api.Errno) {
	if e != api.OK {
		panic(halted{e})
	}
}

// Must is what one answers, unless it told an error: that ends them.
func Must[T any](x T, e api.Errno) T {
	On(e)
	return x
}

// Unless ends them by an error where something does not hold.
func Unless(holds bool, e api.Errno) {
	if !holds {
		On(e)
	}
}

// Caught is what calls answer in the end, or the error that ended them.
func Caught[T any](calls func() T) (x T, e api.Errno) {
	defer func() {
		r := recover()
		if r == nil {
			return
		}
		h, ok := r.(halted)
		if !ok {
			panic(r) // a mistake of the program, not an error of a call
		}
		e = h.e
	}()
	return calls(), api.OK
}
