// Package abort is layer 1: see shared/doc/01-abort.md.
package abort

import (
	"creel/api"
)

// Stop describes an abort: why it came, and at which offset.
type Stop struct {
	Why api.Errno
	At  int
}

// Now aborts: nothing behind it is executed, up to the Out, Value or Each that encloses it.
func Now(why api.Errno, at int) {
	panic(Stop{Why: why, At: at})
}

// Unless aborts, unless is holds.
func Unless(is bool, why api.Errno, at int) {
	if !is {
		Now(why, at)
	}
}

// Out returns the Stop with which f aborted, or the zero one. Other panics go on.
func Out(f func()) (s Stop) {
	defer func() {
		if r := recover(); r != nil {
			s = stopOf(r)
		}
	}()
	call(f)
	return Stop{}
}

// stopOf panics again with what is not a Stop: that was not meant for this package.
func stopOf(recovered any) Stop {
	s, ok := recovered.(Stop)
	if !ok {
		panic(recovered)
	}
	return s
}

// call lets a nil function do nothing, since no argument may lead to a panic.
func call(f func()) {
	if f != nil {
		f()
	}
}

// Value returns the result of f, or the zero value and the Stop with which f aborted.
func Value[T any](f func() T) (T, Stop) {
	var v T
	s := Out(func() {
		if f != nil {
			v = f()
		}
	})
	// A Why of OK is no error, so that its offset is not reported.
	if s.Why == api.OK {
		return v, Stop{}
	}
	// An f that aborted did not assign: v is still zero.
	return v, s
}

// Within calls f and adds by to the offset of its error, for an f that counts from the beginning of a part.
func Within(by int, f func()) {
	s := Out(f)
	Unless(s.Why == api.OK, s.Why, s.At+by)
}

// Each calls f for every number below n, up to the first error; it returns that number (n if there is none) and the Stop.
func Each(n int, f func(i int)) (int, Stop) {
	if f == nil {
		return max(n, 0), Stop{}
	}
	for i := range n {
		if s := Out(func() { f(i) }); s.Why != api.OK {
			return i, s
		}
	}
	return max(n, 0), Stop{}
}

// Finally calls f and then last, whatever f ends with.
func Finally(f, last func()) {
	// Were last deferred itself, a recover in it would end the abort of f, which has to go on.
	defer call(last)
	call(f)
}
