package trial_test

import (
	"math"
	"slices"
	"testing"

	"creel/abort"
	"creel/api"
	"creel/trial"
)

func TestHead(t *testing.T) {
	if got := trial.HeadBytes(trial.I32(5)); got != "\x00\x41\x05\x0b" {
		t.Errorf("% x", got)
	}
	m := trial.NewModel("\x00\x41\x05\x0b\x01")
	if got := m.Head(); !trial.SameInstr(got, trial.I32(5)) || m.Failed() || m.At != 4 {
		t.Errorf("%x, %v, At %d", got, m.Stop, m.At)
	}
}

// TestBrokenHeads: what is broken is so, whatever follows, and where it is said to be.
func TestBrokenHeads(t *testing.T) {
	list := trial.BrokenHeads()
	if len(list) < 400 {
		t.Errorf("%d", len(list))
	}
	for _, x := range list {
		for _, more := range []string{"", "\x00", "\x0b", "\xff"} {
			m := trial.NewModel(x.B + more)
			m.Head()
			if m.Stop != (abort.Stop{Why: x.Why, At: x.At}) {
				t.Errorf("% x: %v, want %d at %d", trial.Short(x.B), m.Stop, x.Why, x.At)
			}
		}
	}
}

func TestConstValue(t *testing.T) {
	taken := []api.Value{{T: 0x7f, N: 3}, {T: 0x10, N: 4}}
	for _, x := range []struct {
		i    api.Instr
		want api.Value
		e    api.Errno
	}{
		{trial.I32(math.MaxUint32), api.Value{T: 0x7f, N: math.MaxUint32}, 0},
		{trial.I64(math.MaxUint64), api.Value{T: 0x7e, N: math.MaxUint64}, 0},
		{trial.Imported(0), taken[0], 0},
		{trial.Imported(1), taken[1], 0},
		{trial.Imported(2), api.Value{}, 24},
		{trial.Imported(1 << 32), api.Value{}, 1},
		{api.Instr{Op: 0x20}, api.Value{}, 12},
	} {
		if got, e := trial.ConstValue(x.i, taken); got != x.want || e != x.e {
			t.Errorf("%x: %x, %d, want %x, %d", x.i, got, e, x.want, x.e)
		}
	}
}

func TestStarts(t *testing.T) {
	taken := []api.Value{{T: 0x7f, N: 3}, {T: 0x7e, N: 4}, {T: 0x7f, N: math.MaxUint64}}
	for n, x := range []struct {
		list []trial.Segment
		size uint32
		want []uint32
		e    api.Errno
	}{
		{nil, 0, nil, 0},
		{[]trial.Segment{{Offset: trial.I32(5), N: 2}, {Offset: trial.Imported(0)}}, 7, []uint32{5, 3}, 0},
		{[]trial.Segment{{Offset: trial.I32(5), N: 2}, {Offset: trial.Imported(0)}}, 6, nil, 45},
		{[]trial.Segment{{Offset: trial.I32(5)}}, 5, []uint32{5}, 0},
		{[]trial.Segment{{Offset: trial.I32(5)}}, 4, nil, 45},
		{[]trial.Segment{{Offset: trial.I32(5), N: 1}}, 5, nil, 45},
		{[]trial.Segment{{Offset: trial.I32(math.MaxUint32), N: 1}}, 5, nil, 45},
		{[]trial.Segment{{Offset: trial.Imported(2), N: 1}}, 5, nil, 45},
		{[]trial.Segment{{Offset: trial.Imported(2), N: 2}}, 5, nil, 45},
		{[]trial.Segment{{Offset: trial.Imported(1)}}, 5, nil, 7},
		{[]trial.Segment{{Offset: trial.I64(9)}, {Offset: trial.Imported(3)}}, 5, nil, 7},
		{[]trial.Segment{{Offset: trial.Imported(3)}, {Offset: trial.I64(9)}}, 5, nil, 24},
	} {
		if got, e := trial.Starts(x.list, taken, x.size); !slices.Equal(got, x.want) || e != x.e {
			t.Errorf("%d: %d, %d, want %d, %d", n, got, e, x.want, x.e)
		}
	}
}

// finder tells where segments begin, or the error.
type finder func(list []trial.Segment, taken []api.Value, size uint32) ([]uint32, api.Errno)

// misplaced counts the errors that the tests of a placer find.
func misplaced(find finder) int {
	found := 0
	p := trial.Placer(func(list []trial.Segment, taken []api.Value, size uint32, starts []uint32, e api.Errno) {
		if got, why := find(list, taken, size); !slices.Equal(got, starts) || why != e {
			found++
		}
	})
	p.TestNone()
	p.TestEdges()
	p.TestSums()
	p.TestTaken()
	p.TestTypes()
	p.TestErrors()
	p.TestShortLists()
	p.TestAnySegments()
	return found
}

// inTurn finds one segment after the other, up to the first error.
func inTurn(one func(v api.Value, n, size uint64) api.Errno) finder {
	return func(list []trial.Segment, taken []api.Value, size uint32) ([]uint32, api.Errno) {
		var starts []uint32
		for _, x := range list {
			v, e := trial.ConstValue(x.Offset, taken)
			if e == 0 {
				e = one(v, uint64(x.N), uint64(size))
			}
			if e != 0 {
				return nil, e
			}
			starts = append(starts, uint32(v.N))
		}
		return starts, 0
	}
}

// firstOf returns the first error of some.
func firstOf(list ...api.Errno) api.Errno {
	for _, e := range list {
		if e != 0 {
			return e
		}
	}
	return 0
}

// unless is an error, if it is one.
func unless(is bool, why api.Errno) api.Errno {
	if is {
		return 0
	}
	return why
}

// TestPlacer has one that is right, and wrong ones.
func TestPlacer(t *testing.T) {
	i32 := func(v api.Value) api.Errno { return unless(v.T == 0x7f, 7) }
	for what, x := range map[string]struct {
		find  finder
		finds bool
	}{
		"right": {inTurn(func(v api.Value, n, size uint64) api.Errno {
			return firstOf(i32(v), unless(v.N+n <= size, 45))
		}), false},
		"sums of 32 bits": {inTurn(func(v api.Value, n, size uint64) api.Errno {
			return firstOf(i32(v), unless(uint64(uint32(v.N+n)) <= size, 45))
		}), true},
		"one too many": {inTurn(func(v api.Value, n, size uint64) api.Errno {
			return firstOf(i32(v), unless(v.N+n <= size+1, 45))
		}), true},
		"one too few": {inTurn(func(v api.Value, n, size uint64) api.Errno {
			return firstOf(i32(v), unless(v.N+n < size || size == 0, 45))
		}), true},
		"nothing goes anywhere": {inTurn(func(v api.Value, n, size uint64) api.Errno {
			return firstOf(i32(v), unless(n == 0 || v.N+n <= size, 45))
		}), true},
		"nothing goes not behind the end": {inTurn(func(v api.Value, n, size uint64) api.Errno {
			return firstOf(i32(v), unless(v.N+max(n, 1) <= size, 45))
		}), true},
		"the type comes last": {inTurn(func(v api.Value, n, size uint64) api.Errno {
			return firstOf(unless(v.N+n <= size, 45), i32(v))
		}), true},
		"no type": {inTurn(func(v api.Value, n, size uint64) api.Errno {
			return unless(v.N+n <= size, 45)
		}), true},
		"i64 as well": {inTurn(func(v api.Value, n, size uint64) api.Errno {
			return firstOf(unless(v.T == 0x7f || v.T == 0x7e, 7), unless(v.N+n <= size, 45))
		}), true},
		"starts beside an error": {func(list []trial.Segment, taken []api.Value, size uint32) ([]uint32, api.Errno) {
			for n := range list {
				if _, e := trial.Starts(list[:n+1], taken, size); e != 0 {
					starts, _ := trial.Starts(list[:n], taken, size)
					return starts, e
				}
			}
			return trial.Starts(list, taken, size)
		}, true},
		"the last error": {func(list []trial.Segment, taken []api.Value, size uint32) ([]uint32, api.Errno) {
			for n := range list {
				if _, e := trial.Starts(list[len(list)-1-n:][:1], taken, size); e != 0 {
					return nil, e
				}
			}
			return trial.Starts(list, taken, size)
		}, true},
		"another order": {func(list []trial.Segment, taken []api.Value, size uint32) ([]uint32, api.Errno) {
			starts, e := trial.Starts(list, taken, size)
			slices.Sort(starts)
			return starts, e
		}, true},
	} {
		if n := misplaced(x.find); (n > 0) != x.finds {
			t.Errorf("%s: %d errors", what, n)
		}
	}
}
