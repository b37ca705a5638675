package trial_test

import (
	"math"
	"slices"
	"strings"
	"testing"

	"creel/abort"
	"creel/api"
	"creel/scan"
	"creel/trial"
)

func TestHead(t *testing.T) {
	if got := trial.HeadBytes(trial.I32(5)); got != "\x00\x41\x05\x0b" {
		t.Errorf("% x", got)
	}
	m := trial.NewModel("\x00\x41\x05\x0b\x01")
	if got := m.Head(); !trial.SameInstr(got, trial.I32(5)) || m.Failed() || m.At != 4 {
		t.Errorf("%x, %v, At %d", got, m.Stop, m.At)
	}
}

// TestBrokenHeads: what is broken is so, whatever follows, and where it is said to be.
func TestBrokenHeads(t *testing.T) {
	list := trial.BrokenHeads()
	if len(list) < 400 {
		t.Errorf("%d", len(list))
	}
	for _, x := range list {
		for _, more := range []string{"", "\x00", "\x0b", "\xff"} {
			m := trial.NewModel(x.B + more)
			m.Head()
			if m.Stop != (abort.Stop{Why: x.Why, At: x.At}) {
				t.Errorf("% x: %v, want %d at %d", trial.Short(x.B), m.Stop, x.Why, x.At)
			}
		}
	}
}

func TestConstValue(t *testing.T) {
	taken := []api.Value{{T: 0x7f, N: 3}, {T: 0x10, N: 4}}
	for _, x := range []struct {
		i    api.Instr
		want api.Value
		e    api.Errno
	}{
		{trial.I32(math.MaxUint32), api.Value{T: 0x7f, N: math.MaxUint32}, 0},
		{trial.I64(math.MaxUint64), api.Value{T: 0x7e, N: math.MaxUint64}, 0},
		{trial.Imported(0), taken[0], 0},
		{trial.Imported(1), taken[1], 0},
		{trial.Imported(2), api.Value{}, 24},
		{trial.Imported(1 << 32), api.Value{}, 1},
		{api.Instr{Op: 0x20}, api.Value{}, 12},
	} {
		if got, e := trial.ConstValue(x.i, taken); got != x.want || e != x.e {
			t.Errorf("%x: %x, %d, want %x, %d", x.i, got, e, x.want, x.e)
		}
	}
}

func TestStarts(t *testing.T) {
	taken := []api.Value{{T: 0x7f, N: 3}, {T: 0x7e, N: 4}, {T: 0x7f, N: math.MaxUint64}}
	for n, x := range []struct {
		list []trial.Segment
		size uint64
		want []uint32
		e    api.Errno
	}{
		{nil, 0, nil, 0},
		{[]trial.Segment{{Offset: trial.I32(5), N: 2}, {Offset: trial.Imported(0)}}, 7, []uint32{5, 3}, 0},
		{[]trial.Segment{{Offset: trial.I32(5), N: 2}, {Offset: trial.Imported(0)}}, 6, nil, 45},
		{[]trial.Segment{{Offset: trial.I32(5)}}, 5, []uint32{5}, 0},
		{[]trial.Segment{{Offset: trial.I32(5)}}, 4, nil, 45},
		{[]trial.Segment{{Offset: trial.I32(5), N: 1}}, 5, nil, 45},
		{[]trial.Segment{{Offset: trial.I32(math.MaxUint32), N: 1}}, 5, nil, 45},
		{[]trial.Segment{{Offset: trial.Imported(2), N: 1}}, 5, nil, 45},
		{[]trial.Segment{{Offset: trial.Imported(2), N: 2}}, 5, nil, 45},
		{[]trial.Segment{{Offset: trial.Imported(1)}}, 5, nil, 7},
		{[]trial.Segment{{Offset: trial.I64(9)}, {Offset: trial.Imported(3)}}, 5, nil, 7},
		{[]trial.Segment{{Offset: trial.Imported(3)}, {Offset: trial.I64(9)}}, 5, nil, 24},
		{[]trial.Segment{{Offset: trial.I32(math.MaxUint32), N: 2}}, 1 << 32, nil, 45},
		{[]trial.Segment{{Offset: trial.I32(math.MaxUint32), N: 2}}, 1<<32 + 1, []uint32{math.MaxUint32}, 0},
	} {
		if got, e := trial.Starts(x.list, taken, x.size); !slices.Equal(got, x.want) || e != x.e {
			t.Errorf("%d: %d, %d, want %d, %d", n, got, e, x.want, x.e)
		}
	}
}

// finder tells where segments begin, or the error.
type finder func(list []trial.Segment, taken []api.Value, size uint64) ([]uint32, api.Errno)

// misplaced counts the errors that the tests of a placer find.
func misplaced(find finder) int {
	found := 0
	p := trial.Placer(func(list []trial.Segment, taken []api.Value, size uint64, starts []uint32, e api.Errno) {
		if got, why := find(list, taken, size); !slices.Equal(got, starts) || why != e {
			found++
		}
	})
	p.TestNone()
	p.TestEdges()
	p.TestSums()
	p.TestLargeSizes()
	p.TestTaken()
	p.TestTypes()
	p.TestErrors()
	p.TestShortLists()
	p.TestAnySegments()
	return found
}

// inTurn finds one segment after the other, up to the first error.
func inTurn(one func(v api.Value, n, size uint64) api.Errno) finder {
	return func(list []trial.Segment, taken []api.Value, size uint64) ([]uint32, api.Errno) {
		var starts []uint32
		for _, x := range list {
			v, e := trial.ConstValue(x.Offset, taken)
			if e == 0 {
				e = one(v, uint64(x.N), size)
			}
			if e != 0 {
				return nil, e
			}
			starts = append(starts, uint32(v.N))
		}
		return starts, 0
	}
}

// firstOf returns the first error of some.
func firstOf(list ...api.Errno) api.Errno {
	for _, e := range list {
		if e != 0 {
			return e
		}
	}
	return 0
}

// unless is an error, if it is one.
func unless(is bool, why api.Errno) api.Errno {
	if is {
		return 0
	}
	return why
}

// TestPlacer has one that is right, and wrong ones.
func TestPlacer(t *testing.T) {
	i32 := func(v api.Value) api.Errno { return unless(v.T == 0x7f, 7) }
	for what, x := range map[string]struct {
		find  finder
		finds bool
	}{
		"right": {inTurn(func(v api.Value, n, size uint64) api.Errno {
			return firstOf(i32(v), unless(v.N+n <= size, 45))
		}), false},
		"sums of 32 bits": {inTurn(func(v api.Value, n, size uint64) api.Errno {
			return firstOf(i32(v), unless(uint64(uint32(v.N+n)) <= size, 45))
		}), true},
		"sizes of 32 bits": {inTurn(func(v api.Value, n, size uint64) api.Errno {
			return firstOf(i32(v), unless(v.N+n <= uint64(uint32(size)), 45))
		}), true},
		"nothing behind 32 bits": {inTurn(func(v api.Value, n, size uint64) api.Errno {
			return firstOf(i32(v), unless(v.N+n <= min(size, 1<<32), 45))
		}), true},
		"one too many": {inTurn(func(v api.Value, n, size uint64) api.Errno {
			return firstOf(i32(v), unless(v.N+n <= size+1, 45))
		}), true},
		"one too few": {inTurn(func(v api.Value, n, size uint64) api.Errno {
			return firstOf(i32(v), unless(v.N+n < size || size == 0, 45))
		}), true},
		"nothing goes anywhere": {inTurn(func(v api.Value, n, size uint64) api.Errno {
			return firstOf(i32(v), unless(n == 0 || v.N+n <= size, 45))
		}), true},
		"nothing goes not behind the end": {inTurn(func(v api.Value, n, size uint64) api.Errno {
			return firstOf(i32(v), unless(v.N+max(n, 1) <= size, 45))
		}), true},
		"the type comes last": {inTurn(func(v api.Value, n, size uint64) api.Errno {
			return firstOf(unless(v.N+n <= size, 45), i32(v))
		}), true},
		"no type": {inTurn(func(v api.Value, n, size uint64) api.Errno {
			return unless(v.N+n <= size, 45)
		}), true},
		"i64 as well": {inTurn(func(v api.Value, n, size uint64) api.Errno {
			return firstOf(unless(v.T == 0x7f || v.T == 0x7e, 7), unless(v.N+n <= size, 45))
		}), true},
		"starts beside an error": {func(list []trial.Segment, taken []api.Value, size uint64) ([]uint32, api.Errno) {
			for n := range list {
				if _, e := trial.Starts(list[:n+1], taken, size); e != 0 {
					starts, _ := trial.Starts(list[:n], taken, size)
					return starts, e
				}
			}
			return trial.Starts(list, taken, size)
		}, true},
		"the last error": {func(list []trial.Segment, taken []api.Value, size uint64) ([]uint32, api.Errno) {
			for n := range list {
				if _, e := trial.Starts(list[len(list)-1-n:][:1], taken, size); e != 0 {
					return nil, e
				}
			}
			return trial.Starts(list, taken, size)
		}, true},
		"another order": {func(list []trial.Segment, taken []api.Value, size uint64) ([]uint32, api.Errno) {
			starts, e := trial.Starts(list, taken, size)
			slices.Sort(starts)
			return starts, e
		}, true},
	} {
		if n := misplaced(x.find); (n > 0) != x.finds {
			t.Errorf("%s: %d errors", what, n)
		}
	}
}

// dots is a layer of segments with up to three dots each, which is right.
func dots() trial.Segments[trial.Segment] {
	return trial.Segments[trial.Segment]{
		Layer: trial.Layer[trial.Segment]{
			Right: dotsError,
			Put: func(x trial.Segment) ([]byte, api.Errno) {
				if e := dotsError(x); e != 0 {
					return nil, e
				}
				return []byte(dotsBytes(x)), 0
			},
			Get: func(s *scan.Scanner) trial.Segment {
				m := trial.NewModel(string(s.Bytes(s.Left())))
				x := getDots(m)
				abort.Unless(!m.Failed(), m.Stop.Why, s.At()-len(m.B)+m.Stop.At)
				return x
			},
			ModelRight: dotsError,
			ModelPut:   dotsBytes,
			ModelGet:   getDots,
			Samples: func() []trial.Sample[trial.Segment] {
				return []trial.Sample[trial.Segment]{{E: trial.Segment{Offset: trial.I32(5), N: 2}, B: "\x00\x41\x05\x0b.."}}
			},
			Same: func(a, b trial.Segment) bool { return trial.SameInstr(a.Offset, b.Offset) && a.N == b.N },
			Tell: func(x trial.Segment) any { return x.N },
		},
		With: func(offset api.Instr, n int) trial.Segment { return trial.Segment{Offset: offset, N: n} },
		Most: 3,
		Many: 13,
	}
}

func dotsError(x trial.Segment) api.Errno {
	if x.N > 3 {
		return 13
	}
	return trial.ConstError(x.Offset)
}

func dotsBytes(x trial.Segment) string {
	return trial.HeadBytes(x.Offset) + strings.Repeat(".", x.N)
}

// getDots takes all that there is behind the beginning for dots.
func getDots(m *trial.Model) trial.Segment {
	x := trial.Segment{Offset: m.Head()}
	if !m.Failed() {
		x.N = len(m.Bytes(len(m.B) - m.At))
	}
	return x
}

// dotFaults counts the errors that the tests of a layer of segments find.
func dotFaults(s trial.Segments[trial.Segment]) int {
	var found errors
	s.TestNumbers(&found)
	s.TestOpcodes(&found)
	s.TestFlags(&found)
	return int(found)
}

// TestSegments has a layer that is right, and spoils one thing at a time.
func TestSegments(t *testing.T) {
	type layer = trial.Layer[trial.Segment]
	for what, spoil := range map[string]func(l *layer){
		"no limit": func(l *layer) {
			l.Right = func(x trial.Segment) api.Errno { return trial.ConstError(x.Offset) }
		},
		"a lower limit": func(l *layer) {
			l.Right = func(x trial.Segment) api.Errno { x.N++; return dotsError(x) }
		},
		"the offset counts first": func(l *layer) {
			l.Right = func(x trial.Segment) api.Errno { return firstOf(trial.ConstError(x.Offset), dotsError(x)) }
		},
		"no segments of nothing": func(l *layer) {
			l.Right = func(x trial.Segment) api.Errno { return firstOf(dotsError(x), unless(x.N > 0, 12)) }
		},
		"no i64": func(l *layer) {
			l.Right = func(x trial.Segment) api.Errno { return firstOf(dotsError(x), unless(x.Offset.Op != 0x42, 7)) }
		},
		"any instruction": func(l *layer) {
			l.Right = func(x trial.Segment) api.Errno { return unless(x.N <= 3, 13) }
		},
		"labels": func(l *layer) {
			l.Right = func(x trial.Segment) api.Errno { x.Offset.L = nil; return dotsError(x) }
		},
		"bytes beside an error": func(l *layer) {
			l.Put = func(x trial.Segment) ([]byte, api.Errno) { return []byte(trial.HeadBytes(trial.I32(5))), dotsError(x) }
		},
		"another beginning": func(l *layer) {
			l.Get = func(s *scan.Scanner) trial.Segment {
				s.Byte()
				return trial.Segment{Offset: trial.I32(5), N: len(s.Bytes(s.Left())) - 3}
			}
		},
		"the rest counts first": func(l *layer) {
			get := l.Get
			l.Get = func(s *scan.Scanner) trial.Segment {
				abort.Unless(s.Left() > 1, 2, s.At()+1)
				return get(s)
			}
		},
	} {
		s := dots()
		spoil(&s.Layer)
		if dotFaults(s) == 0 {
			t.Errorf("%s: no test finds it", what)
		}
	}
	if n := dotFaults(dots()); n != 0 {
		t.Errorf("%d errors", n)
	}
}
