package abort_test

import (
	"errors"
	"math"
	"runtime"
	"slices"
	"testing"

	"creel/abort"
	"creel/api"
)

// thrown tells what f panics with, without the help of package abort; ended tells that f returned.
func thrown(f func()) (value any, ended bool) {
	defer func() { value = recover() }()
	f()
	return nil, true
}

// abortsWith checks that f panics with exactly that Stop.
func abortsWith(t *testing.T, what string, f func(), want abort.Stop) {
	t.Helper()
	got, ended := thrown(f)
	if ended {
		t.Errorf("%s: returned, want an abort with %v", what, want)
		return
	}
	if s, ok := got.(abort.Stop); !ok || s != want {
		t.Errorf("%s: panic with %T %v, want %v", what, got, got, want)
	}
}

// returns checks that f comes to its end.
func returns(t *testing.T, what string, f func()) {
	t.Helper()
	if got, ended := thrown(f); !ended {
		t.Errorf("%s: panic with %T %v, want none", what, got, got)
	}
}

// stops are aborts of every sort, also such as no layer has.
func stops() []abort.Stop {
	return []abort.Stop{
		{Why: api.ErrUTF, At: 5},
		{Why: api.ErrArg, At: 0},
		{Why: api.LimitDepth, At: -1},
		{Why: 12345, At: math.MaxInt},
		{Why: -1, At: math.MinInt},
		{Why: api.OK, At: 0},
		{Why: api.OK, At: 7},
	}
}

// like has the fields of a Stop, and holding embeds one: neither is one.
type like struct {
	Why api.Errno
	At  int
}

type holding struct{ abort.Stop }

// strangers are panics that are no aborts.
func strangers() []any {
	return []any{
		"text", 4, api.ErrUTF, errors.New("an error"),
		&abort.Stop{Why: api.ErrUTF, At: 5}, like{api.ErrUTF, 5}, holding{abort.Stop{Why: api.ErrUTF, At: 5}},
	}
}

// passesOn checks that run hands the panics that are no aborts on, unchanged.
func passesOn(t *testing.T, what string, run func(f func())) {
	t.Helper()
	for _, want := range strangers() {
		got, ended := thrown(func() { run(func() { panic(want) }) })
		if ended || got != want {
			t.Errorf("%s: panic with %T %v came out as %T %v", what, want, want, got, got)
		}
	}
	got, ended := thrown(func() { run(func() { panic(nil) }) })
	if _, ok := got.(*runtime.PanicNilError); ended || !ok {
		t.Errorf("%s: panic with nil came out as %T %v", what, got, got)
	}
	var none []int
	got, ended = thrown(func() { run(func() { none[len(none)]++ }) })
	if _, ok := got.(runtime.Error); ended || !ok {
		t.Errorf("%s: an index out of range came out as %T %v", what, got, got)
	}
}

// P1.1

func TestNowAborts(t *testing.T) {
	for _, s := range stops() {
		abortsWith(t, "Now", func() { abort.Now(s.Why, s.At) }, s)
	}
}

func TestUnlessAbortsIfFalse(t *testing.T) {
	for _, s := range stops() {
		abortsWith(t, "Unless(false)", func() { abort.Unless(false, s.Why, s.At) }, s)
		returns(t, "Unless(true)", func() { abort.Unless(true, s.Why, s.At) })
	}
}

// P1.2

func TestOutReturnsTheStop(t *testing.T) {
	for _, want := range stops() {
		if got := abort.Out(func() { abort.Now(want.Why, want.At) }); got != want {
			t.Errorf("Out: %v, want %v", got, want)
		}
	}
}

func TestOutOfNoAbort(t *testing.T) {
	called := 0
	if got := abort.Out(func() { called++ }); got != (abort.Stop{}) || called != 1 {
		t.Errorf("Out: %v after %d calls, want the zero Stop after 1", got, called)
	}
}

func TestOutPassesOnOtherPanics(t *testing.T) {
	passesOn(t, "Out", func(f func()) { abort.Out(f) })
	passesOn(t, "Out in Out", func(f func()) { abort.Out(func() { abort.Out(f) }) })
}

func TestOutRecoversNoAbortButThatOfItsFunction(t *testing.T) {
	want := abort.Stop{Why: api.ErrEnd, At: 3}
	abortsWith(t, "Out while an abort is under way", func() {
		defer func() {
			if got := abort.Out(func() {}); got != (abort.Stop{}) {
				t.Errorf("Out: %v of a function that returned", got)
			}
		}()
		abort.Now(want.Why, want.At)
	}, want)
}

// checkValue calls Value for a type: with a result, with errors, and with an abort that is no error.
func checkValue[T any](t *testing.T, what string, result T, is func(a, b T) bool) {
	t.Helper()
	var zero T
	if got, s := abort.Value(func() T { return result }); !is(got, result) || s != (abort.Stop{}) {
		t.Errorf("Value of %s: %v, %v", what, got, s)
	}
	for _, want := range stops() {
		got, s := abort.Value(func() T { abort.Now(want.Why, want.At); return result })
		if want.Why == api.OK {
			want = abort.Stop{}
		}
		if !is(got, zero) || s != want {
			t.Errorf("Value of %s: %v, %v, want the zero value and %v", what, got, s, want)
		}
	}
}

func same[T comparable](a, b T) bool { return a == b }

func TestValueOfManyTypes(t *testing.T) {
	checkValue(t, "an int", 9, same)
	checkValue(t, "a text", "nine", same)
	checkValue(t, "a float", 0.5, same)
	checkValue(t, "a struct", api.Value{T: api.I64, N: 9}, same)
	checkValue(t, "a Stop", abort.Stop{Why: api.ErrLeb, At: 9}, same)
	checkValue(t, "a pointer", &api.Value{T: api.I32}, same)
	checkValue(t, "an interface", error(errors.New("a result")), same)
	checkValue(t, "a slice", []int{1, 2, 3}, func(a, b []int) bool { return slices.Equal(a, b) && (a == nil) == (b == nil) })
	checkValue(t, "a func", func() {}, func(a, b func()) bool { return (a == nil) == (b == nil) })
}

func TestValueOfANamedResult(t *testing.T) {
	got, s := abort.Value(func() (v int) { v = 9; abort.Now(api.ErrUTF, 5); return v })
	if got != 0 || s != (abort.Stop{Why: api.ErrUTF, At: 5}) {
		t.Errorf("Value: %d, %v: what was assigned ahead of the abort is no result", got, s)
	}
}

func TestValuePassesOnOtherPanics(t *testing.T) {
	passesOn(t, "Value", func(f func()) { abort.Value(func() int { f(); return 1 }) })
}

// P1.3

func TestWithinAddsToTheOffset(t *testing.T) {
	for _, c := range []struct{ by, at, want int }{
		{10, 3, 13}, {0, 3, 3}, {-4, 3, -1}, {10, 0, 10}, {5, -5, 0}, {-3, -4, -7},
		{math.MaxInt, 1, math.MinInt}, {math.MinInt, -1, math.MaxInt},
	} {
		abortsWith(t, "Within", func() {
			abort.Within(c.by, func() { abort.Now(api.ErrLeb, c.at) })
		}, abort.Stop{Why: api.ErrLeb, At: c.want})
	}
	if got := abort.Out(func() { abort.Within(10, func() { abort.Now(2, 3) }) }); got != (abort.Stop{Why: 2, At: 13}) {
		t.Errorf("the example of the chapter: %v", got)
	}
}

func TestWithinKeepsTheWhy(t *testing.T) {
	for _, s := range stops() {
		if s.Why != api.OK {
			abortsWith(t, "Within", func() {
				abort.Within(2, func() { abort.Now(s.Why, s.At) })
			}, abort.Stop{Why: s.Why, At: s.At + 2})
		}
	}
}

func TestWithinWithoutAnError(t *testing.T) {
	called := 0
	returns(t, "Within", func() { abort.Within(10, func() { called++ }) })
	returns(t, "Within of a Why of OK", func() {
		abort.Within(10, func() { called++; abort.Now(api.OK, 3) })
		called++
	})
	if called != 3 {
		t.Errorf("Within: %d steps were made, want 3", called)
	}
}

func TestWithinPassesOnOtherPanics(t *testing.T) {
	passesOn(t, "Within", func(f func()) { abort.Within(10, f) })
}

func TestEachCallsInOrder(t *testing.T) {
	for _, c := range []struct {
		n    int
		want []int
	}{{0, nil}, {1, []int{0}}, {4, []int{0, 1, 2, 3}}, {-1, nil}, {math.MinInt, nil}} {
		var seen []int
		n, s := abort.Each(c.n, func(i int) { seen = append(seen, i) })
		if n != len(c.want) || s != (abort.Stop{}) || !slices.Equal(seen, c.want) {
			t.Errorf("Each(%d): %d, %v, called with %v", c.n, n, s, seen)
		}
	}
}

func TestEachStopsAtTheFirstError(t *testing.T) {
	for first := range 5 {
		var seen []int
		n, s := abort.Each(5, func(i int) {
			seen = append(seen, i)
			abort.Unless(i < first, api.ErrLeb, 100+i)
		})
		if n != first || s != (abort.Stop{Why: api.ErrLeb, At: 100 + first}) || len(seen) != first+1 {
			t.Errorf("Each with an error at %d: %d, %v, called with %v", first, n, s, seen)
		}
	}
}

func TestEachGoesOnAfterAWhyOfOK(t *testing.T) {
	called := 0
	n, s := abort.Each(4, func(i int) { called++; abort.Now(api.OK, i+1) })
	if n != 4 || s != (abort.Stop{}) || called != 4 {
		t.Errorf("Each: %d, %v after %d calls", n, s, called)
	}
	n, s = abort.Each(4, func(i int) {
		abort.Unless(i != 1, api.OK, 8)
		abort.Unless(i != 2, api.ErrUTF, 9)
	})
	if n != 2 || s != (abort.Stop{Why: api.ErrUTF, At: 9}) {
		t.Errorf("Each: %d, %v", n, s)
	}
}

func TestEachPassesOnOtherPanics(t *testing.T) {
	passesOn(t, "Each", func(f func()) { abort.Each(3, func(int) { f() }) })
}

func TestFinallyCallsBoth(t *testing.T) {
	order := ""
	returns(t, "Finally", func() {
		abort.Finally(func() { order += "f" }, func() { order += "l" })
		order += "."
	})
	if order != "fl." {
		t.Errorf("Finally: order %q", order)
	}
}

func TestFinallyLetsTheAbortGoOn(t *testing.T) {
	for _, s := range stops() {
		order := ""
		abortsWith(t, "Finally", func() {
			abort.Finally(func() { order += "f"; abort.Now(s.Why, s.At) }, func() { order += "l" })
			order += "."
		}, s)
		if order != "fl" {
			t.Errorf("Finally of %v: order %q", s, order)
		}
	}
}

func TestFinallyIsNotStoppedByItsLast(t *testing.T) {
	want := abort.Stop{Why: api.ErrEnd, At: 3}
	for what, last := range map[string]func(){
		"recover":          func() { recover() },
		"Out of nothing":   func() { abort.Out(func() {}) },
		"Out of an abort":  func() { abort.Out(func() { abort.Now(api.ErrUTF, 9) }) },
		"Finally":          func() { abort.Finally(func() {}, func() {}) },
		"a recovered call": func() { thrown(func() { panic("text") }) },
	} {
		abortsWith(t, "Finally with "+what, func() {
			abort.Finally(func() { abort.Now(want.Why, want.At) }, last)
		}, want)
	}
}

func TestFinallyOfAnAbortInLast(t *testing.T) {
	want := abort.Stop{Why: api.ErrEnd, At: 3}
	abortsWith(t, "Finally", func() { abort.Finally(func() {}, func() { abort.Now(want.Why, want.At) }) }, want)
}

func TestFinallyPassesOnOtherPanics(t *testing.T) {
	passesOn(t, "Finally", func(f func()) { abort.Finally(f, func() {}) })
	passesOn(t, "Finally", func(f func()) { abort.Finally(func() {}, f) })
}

// P1.4

// nested calls f below so many levels of each function that lets aborts through, and notes what runs behind them.
func nested(depth int, f func(), behind *int) {
	if depth == 0 {
		f()
		*behind++
		return
	}
	abort.Within(1, func() {
		abort.Finally(func() {
			nested(depth-1, f, behind)
			*behind++
		}, func() {})
		*behind++
	})
	*behind++
}

func TestAbortIsReportedFromAnyDepth(t *testing.T) {
	for _, depth := range []int{0, 1, 2, 10, 1000, 1 << 16} {
		behind := 0
		got := abort.Out(func() {
			nested(depth, func() { abort.Now(api.ErrStack, 5) }, &behind)
			behind++
		})
		if got != (abort.Stop{Why: api.ErrStack, At: 5 + depth}) || behind != 0 {
			t.Errorf("depth %d: %v, and %d steps behind the abort", depth, got, behind)
		}
	}
}

func TestAbortPassesPlainFunctions(t *testing.T) {
	for _, want := range stops() {
		behind := 0
		got := abort.Out(func() {
			func() {
				func() { abort.Unless(false, want.Why, want.At); behind++ }()
				behind++
			}()
			behind++
		})
		if got != want || behind != 0 {
			t.Errorf("%v came out as %v, and %d steps behind it", want, got, behind)
		}
	}
}

func TestAbortEndsAtTheInnermostOut(t *testing.T) {
	var inner abort.Stop
	after := false
	outer := abort.Out(func() {
		inner = abort.Out(func() { abort.Now(api.ErrUTF, 1) })
		after = true
		abort.Now(api.ErrLeb, 2)
	})
	if inner != (abort.Stop{Why: api.ErrUTF, At: 1}) || !after || outer != (abort.Stop{Why: api.ErrLeb, At: 2}) {
		t.Errorf("inner %v, after it %t, outer %v", inner, after, outer)
	}
}

func TestAllTogether(t *testing.T) {
	done, last := 0, 0
	v, s := abort.Value(func() string {
		n, s := abort.Each(3, func(i int) {
			abort.Finally(func() {
				abort.Within(10*i, func() { abort.Unless(i < 2, api.ErrCount, 4) })
				done++
			}, func() { last++ })
		})
		abort.Unless(s.Why == api.OK, s.Why, s.At+100*n)
		return "done"
	})
	if v != "" || s != (abort.Stop{Why: api.ErrCount, At: 224}) || done != 2 || last != 3 {
		t.Errorf("%q, %v, done %d, last %d", v, s, done, last)
	}
}

// P1

func TestNilFunctionsDoNothing(t *testing.T) {
	returns(t, "nil", func() {
		if s := abort.Out(nil); s != (abort.Stop{}) {
			t.Errorf("Out(nil): %v", s)
		}
		if v, s := abort.Value[int](nil); v != 0 || s != (abort.Stop{}) {
			t.Errorf("Value(nil): %d, %v", v, s)
		}
		for _, n := range []int{-1, 0, 3} {
			if got, s := abort.Each(n, nil); got != max(n, 0) || s != (abort.Stop{}) {
				t.Errorf("Each(%d, nil): %d, %v", n, got, s)
			}
		}
		abort.Within(10, nil)
		abort.Finally(nil, nil)
	})
	called := false
	returns(t, "Finally(nil, last)", func() { abort.Finally(nil, func() { called = true }) })
	if !called {
		t.Error("Finally(nil, last) did not call last")
	}
	want := abort.Stop{Why: api.ErrArg, At: 1}
	abortsWith(t, "Finally(f, nil)", func() { abort.Finally(func() { abort.Now(want.Why, want.At) }, nil) }, want)
}

func TestAGoroutineThatEndsItself(t *testing.T) {
	last := false
	ended := make(chan bool)
	go func() {
		defer close(ended)
		abort.Out(func() {
			abort.Within(1, func() {
				abort.Finally(runtime.Goexit, func() { last = true })
			})
		})
		t.Error("a goroutine went on behind its end")
	}()
	<-ended
	if !last {
		t.Error("Finally did not call last at the end of a goroutine")
	}
}

// P2

func TestAnAbortLeavesNothingBehind(t *testing.T) {
	bytes := []byte{1, 2, 3, 4}
	look := func() {
		abort.Within(2, func() { abort.Unless(len(bytes[:2]) > 2, api.ErrShort, int(bytes[1])) })
	}
	first := abort.Out(look)
	for range 3 {
		if got := abort.Out(func() {}); got != (abort.Stop{}) {
			t.Errorf("Out behind an abort: %v", got)
		}
		if v, s := abort.Value(func() int { return 9 }); v != 9 || s != (abort.Stop{}) {
			t.Errorf("Value behind an abort: %d, %v", v, s)
		}
		if n, s := abort.Each(2, func(int) {}); n != 2 || s != (abort.Stop{}) {
			t.Errorf("Each behind an abort: %d, %v", n, s)
		}
		if got := abort.Out(look); got != first {
			t.Errorf("the same abort again: %v, first %v", got, first)
		}
	}
	if first != (abort.Stop{Why: api.ErrShort, At: 4}) || !slices.Equal(bytes, []byte{1, 2, 3, 4}) {
		t.Errorf("%v, and the bytes are %v", first, bytes)
	}
}
