package opstack_test

import (
	"math"
	"slices"
	"strings"
	"testing"

	"creel/api"
	"creel/opstack"
	"creel/trial"
)

// The results and the model are written from the chapter with numbers of their own.

// Types, in a string.
const (
	i32     = "\x7f"
	i64     = "\x7e"
	unknown = "\x00"
)

// stackOf is a new Stack with these entries, the last one on top.
func stackOf(entries string) *opstack.Stack {
	s := &opstack.Stack{}
	s.PushAll(entries)
	return s
}

// holds tells whether the Stack has these entries, from bottom to top.
func holds(t *testing.T, what string, s *opstack.Stack, want string) {
	t.Helper()
	if got := s.List(); string(got) != want || s.Len() != len(want) {
		t.Errorf("%s: %d entries, %x, want %d, %x", what, s.Len(), trial.Short(got), len(want), trial.Short(want))
	}
}

// far are numbers that are far from the heights of Stacks, some of which seem near if only their lowest bits are looked at.
func far() []int {
	return []int{
		-2, -100, -255, -256, -1 << 16, -1<<31 + 1, -1 << 31, -1<<32 + 1, -1 << 32, math.MinInt + 1, math.MinInt,
		100, 255, 256, 257, 1 << 16, 1<<31 - 1, 1 << 31, 1<<32 - 1, 1 << 32, 1<<32 + 1, math.MaxInt - 1, math.MaxInt,
	}
}

// P21.1

func TestAny(t *testing.T) {
	var got byte = opstack.Any
	if got != 0 {
		t.Errorf("Any: %d", got)
	}
}

func TestZeroStack(t *testing.T) {
	var s opstack.Stack
	holds(t, "the zero Stack", &s, "")
	holds(t, "a new one", &opstack.Stack{}, "")
	s.Push(0x7f)
	holds(t, "the first entry", &s, i32)
}

func TestPush(t *testing.T) {
	s, want := &opstack.Stack{}, ""
	for _, x := range []byte("\x7f\x7e\x7e\x00\x7f\x7d\x00\x00\x01") {
		s.Push(x)
		want += string([]byte{x})
		holds(t, "Push", s, want)
	}
	holds(t, "Push of nine", s, "\x7f\x7e\x7e\x00\x7f\x7d\x00\x00\x01")
}

func TestPushOfAllBytes(t *testing.T) {
	s, want := &opstack.Stack{}, []byte{}
	for x := range 256 {
		s.Push(byte(x))
		want = append(want, byte(x))
		holds(t, "Push", s, string(want))
	}
	holds(t, "PushAll", stackOf(string(want)), string(want))
}

func TestPushAll(t *testing.T) {
	s := &opstack.Stack{}
	rows := []struct{ types, want string }{
		{"", ""},
		{"\x7f", "\x7f"},
		{"", "\x7f"},
		{"\x7e", "\x7f\x7e"},
		{"\x7e\x7f\x00", "\x7f\x7e\x7e\x7f\x00"},
		{"\x00\x01\xff\x80\xc3\xa9", "\x7f\x7e\x7e\x7f\x00\x00\x01\xff\x80\xc3\xa9"},
		{"", "\x7f\x7e\x7e\x7f\x00\x00\x01\xff\x80\xc3\xa9"},
	}
	for _, r := range rows {
		s.PushAll(r.types)
		holds(t, "PushAll", s, r.want)
	}
	if x, e := s.Pop(0, false); x != 0xa9 || e != api.OK {
		t.Errorf("on top: %x, %d", x, e)
	}
}

func TestManyEntries(t *testing.T) {
	s, many := &opstack.Stack{}, strings.Repeat("\x7f\x7e\x00", 50000)
	s.PushAll(many)
	holds(t, "PushAll", s, many)
	for range 50000 {
		s.Push(0x7e)
	}
	holds(t, "Push", s, many+strings.Repeat(i64, 50000))
	s.Cut(len(many))
	holds(t, "Cut", s, many)
	for range many {
		if _, e := s.Pop(0, false); e != api.OK {
			t.Fatalf("Pop: %d", e)
		}
	}
	holds(t, "Pop", s, "")
}

func TestCut(t *testing.T) {
	rows := []struct {
		entries string
		n       int
		want    string
	}{
		{"", 0, ""},
		{"", 1, ""},
		{"", -1, ""},
		{"\x7f", 0, ""},
		{"\x7f", 1, "\x7f"},
		{"\x7f", 2, "\x7f"},
		{"\x7f", -1, "\x7f"},
		{"\x7f\x7e\x00\x7d", 0, ""},
		{"\x7f\x7e\x00\x7d", 1, "\x7f"},
		{"\x7f\x7e\x00\x7d", 2, "\x7f\x7e"},
		{"\x7f\x7e\x00\x7d", 3, "\x7f\x7e\x00"},
		{"\x7f\x7e\x00\x7d", 4, "\x7f\x7e\x00\x7d"},
		{"\x7f\x7e\x00\x7d", 5, "\x7f\x7e\x00\x7d"},
		{"\x7f\x7e\x00\x7d", 8, "\x7f\x7e\x00\x7d"},
		{"\x7f\x7e\x00\x7d", -1, "\x7f\x7e\x00\x7d"},
		{"\x7f\x7e\x00\x7d", -3, "\x7f\x7e\x00\x7d"},
		{"\x7f\x7e\x00\x7d", -4, "\x7f\x7e\x00\x7d"},
	}
	for _, r := range rows {
		s := stackOf(r.entries)
		s.Cut(r.n)
		holds(t, "Cut", s, r.want)
		s.Push(0x55)
		holds(t, "Push behind Cut", s, r.want+"\x55")
	}
}

// TestCutAboveLen has room behind the entries, which must not become entries again.
func TestCutAboveLen(t *testing.T) {
	s := stackOf("\x7f\x7e\x7d\x7c\x7b\x7a\x79\x78")
	s.Cut(3)
	for _, n := range append(far(), 3, 4, 5, 7, 8, 9, -1, -3) {
		s.Cut(n)
		holds(t, "Cut", s, "\x7f\x7e\x7d")
	}
	s.Pop(0, false)
	s.Cut(3)
	holds(t, "Cut of 3 behind Pop", s, "\x7f\x7e")
	s.Cut(1)
	s.Cut(2)
	holds(t, "Cut of 2 behind Cut of 1", s, "\x7f")
}

func TestCutOfFar(t *testing.T) {
	for _, entries := range []string{"", "\x7f", "\x7f\x7e\x7d"} {
		for _, n := range far() {
			s := stackOf(entries)
			s.Cut(n)
			holds(t, "Cut", s, entries)
		}
	}
}

func TestClone(t *testing.T) {
	var zero opstack.Stack
	holds(t, "the zero Stack's", zero.Clone(), "")
	for _, entries := range []string{"", "\x7f", "\x00", "\x7f\x7e\x00\x7d\xff", strings.Repeat("\x7e\x7f", 10000)} {
		s := stackOf(entries)
		c := s.Clone()
		if c == s {
			t.Errorf("Clone is the Stack itself")
		}
		holds(t, "Clone", c, entries)
		holds(t, "Clone of Clone", c.Clone(), entries)
		holds(t, "the original", s, entries)
	}
}

// changes are lists of calls that change a Stack of at least three entries, some of which write again where others have been.
func changes() map[string]func(s *opstack.Stack) {
	return map[string]func(s *opstack.Stack){
		"Push":             func(s *opstack.Stack) { s.Push(0x11) },
		"another Push":     func(s *opstack.Stack) { s.Push(0x22) },
		"PushAll":          func(s *opstack.Stack) { s.PushAll("\x33\x34\x35\x36") },
		"much PushAll":     func(s *opstack.Stack) { s.PushAll(strings.Repeat("\x44", 1000)) },
		"Pop":              func(s *opstack.Stack) { s.Pop(0, false) },
		"Pop and Push":     func(s *opstack.Stack) { s.Pop(1, true); s.Push(0x55) },
		"Want":             func(s *opstack.Stack) { s.Want(opstack.Any, 0, false) },
		"a Want that ends": func(s *opstack.Stack) { s.Want(0x66, 0, false); s.Push(0x67) },
		"WantAll":          func(s *opstack.Stack) { s.WantAll("\x00\x00", 0, false) },
		"WantAll and Push": func(s *opstack.Stack) { s.WantAll("\x00\x00\x00", 0, false); s.PushAll("\x77\x78\x79") },
		"Cut":              func(s *opstack.Stack) { s.Cut(1) },
		"Cut and PushAll":  func(s *opstack.Stack) { s.Cut(0); s.PushAll("\x88\x89\x8a") },
	}
}

// rooms are ways to the same entries, with more or less room behind them.
func rooms() map[string]func(entries string) *opstack.Stack {
	return map[string]func(entries string) *opstack.Stack{
		"PushAll": stackOf,
		"Push": func(entries string) *opstack.Stack {
			s := &opstack.Stack{}
			for _, x := range []byte(entries) {
				s.Push(x)
			}
			return s
		},
		"Cut": func(entries string) *opstack.Stack {
			s := stackOf(entries + strings.Repeat("\x99", 100))
			s.Cut(len(entries))
			return s
		},
		"Pop": func(entries string) *opstack.Stack {
			s := stackOf(entries + "\x99\x99\x99")
			for range 3 {
				s.Pop(0, false)
			}
			return s
		},
		"Clone": func(entries string) *opstack.Stack { return stackOf(entries).Clone() },
	}
}

// TestCloneIsIndependent changes the original and then the copy, and the other way round: each has what it would have alone.
func TestCloneIsIndependent(t *testing.T) {
	const entries = "\x7f\x7e\x00\x7d\x7c"
	for room, of := range rooms() {
		for first, change := range changes() {
			for second, other := range changes() {
				alone, next := of(entries), of(entries)
				change(alone)
				other(next)
				want, then := string(alone.List()), string(next.List())
				for _, back := range []bool{false, true} {
					s := of(entries)
					c := s.Clone()
					if back {
						s, c = c, s
					}
					what := room + ", " + first + ", then " + second + " of the other"
					change(s)
					holds(t, what+", which comes second", c, entries)
					other(c)
					holds(t, what+", which came first", s, want)
					holds(t, what, c, then)
				}
			}
		}
	}
}

func TestListIsNew(t *testing.T) {
	const entries = "\x7f\x7e\x00\x7d\x7c"
	for room, of := range rooms() {
		for name, change := range changes() {
			s := of(entries)
			c := s.Clone()
			list, copied := s.List(), c.List()
			change(s)
			if string(list) != entries || string(copied) != entries {
				t.Errorf("%s, %s: the bytes of List have become %x and %x", room, name, list, copied)
			}
			change(c)
			if string(list) != entries || string(copied) != entries {
				t.Errorf("%s, %s of the copy: the bytes of List have become %x and %x", room, name, list, copied)
			}
		}
	}
}

func TestListMayBeWrittenInto(t *testing.T) {
	const entries = "\x7f\x7e\x00\x7d\x7c"
	for room, of := range rooms() {
		for name, change := range changes() {
			s, alone := of(entries), of(entries)
			c := s.Clone()
			again := s.List()
			trial.Spoil(s.List(), 0xaa)
			trial.Spoil(c.List(), 0xab)
			holds(t, room, s, entries)
			holds(t, room+", of the copy", c, entries)
			if string(again) != entries {
				t.Errorf("%s: the bytes of another List have become %x", room, again)
			}
			change(s)
			change(alone)
			trial.Spoil(s.List(), 0xac)
			holds(t, room+", "+name, s, string(alone.List()))
			holds(t, room+", "+name+", of the copy", c, entries)
		}
	}
	trial.Spoil((&opstack.Stack{}).List(), 0xaa)
	holds(t, "a Stack behind the list of an empty one", stackOf(i64), i64)
}

// P21.2

// answer is what Pop, Want or WantAll returns, the last one without a type.
type answer struct {
	t byte
	e api.Errno
}

func pops(t *testing.T, entries string, floor int, free bool, want answer, left string) {
	t.Helper()
	s := stackOf(entries)
	if x, e := s.Pop(floor, free); (answer{x, e}) != want {
		t.Errorf("Pop(%d, %t) of %x: %x, %d, want %x, %d", floor, free, entries, x, e, want.t, want.e)
	}
	holds(t, "Pop", s, left)
}

func TestPop(t *testing.T) {
	rows := []struct {
		entries string
		floor   int
		free    bool
		want    answer
		left    string
	}{
		// more entries than floor
		{"\x7f", 0, false, answer{t: 0x7f}, ""},
		{"\x7f", 0, true, answer{t: 0x7f}, ""},
		{"\x7f\x7e", 0, false, answer{t: 0x7e}, "\x7f"},
		{"\x7f\x7e", 1, false, answer{t: 0x7e}, "\x7f"},
		{"\x7f\x7e", 1, true, answer{t: 0x7e}, "\x7f"},
		{"\x7f\x7e\x7d\x7c", 1, false, answer{t: 0x7c}, "\x7f\x7e\x7d"},
		{"\x7f\x00", 1, false, answer{t: 0}, "\x7f"},
		{"\x7f\x00", 1, true, answer{t: 0}, "\x7f"},
		{"\x01\xff", 0, false, answer{t: 0xff}, "\x01"},
		// exactly floor
		{"", 0, false, answer{e: api.ErrStack}, ""},
		{"", 0, true, answer{}, ""},
		{"\x7f", 1, false, answer{e: api.ErrStack}, "\x7f"},
		{"\x7f", 1, true, answer{}, "\x7f"},
		{"\x00", 1, false, answer{e: api.ErrStack}, "\x00"},
		{"\x7f\x7e\x7d", 3, false, answer{e: api.ErrStack}, "\x7f\x7e\x7d"},
		{"\x7f\x7e\x7d", 3, true, answer{}, "\x7f\x7e\x7d"},
		// fewer
		{"", 1, false, answer{e: api.ErrStack}, ""},
		{"", 1, true, answer{}, ""},
		{"\x7f\x7e", 3, false, answer{e: api.ErrStack}, "\x7f\x7e"},
		{"\x7f\x7e", 3, true, answer{}, "\x7f\x7e"},
		// a negative floor is 0
		{"\x7f\x7e", -1, false, answer{t: 0x7e}, "\x7f"},
		{"\x7f", -1, true, answer{t: 0x7f}, ""},
		{"", -1, false, answer{e: api.ErrStack}, ""},
		{"", -1, true, answer{}, ""},
		{"", -2, false, answer{e: api.ErrStack}, ""},
	}
	for _, r := range rows {
		pops(t, r.entries, r.floor, r.free, r.want, r.left)
	}
}

func TestPopOfFarFloors(t *testing.T) {
	for _, floor := range far() {
		pops(t, "", floor, false, answer{e: api.ErrStack}, "")
		pops(t, "", floor, true, answer{}, "")
		if floor < 0 {
			pops(t, "\x7f\x7e", floor, false, answer{t: 0x7e}, "\x7f")
			pops(t, "\x7f\x7e", floor, true, answer{t: 0x7e}, "\x7f")
		} else {
			pops(t, "\x7f\x7e", floor, false, answer{e: api.ErrStack}, "\x7f\x7e")
			pops(t, "\x7f\x7e", floor, true, answer{}, "\x7f\x7e")
		}
	}
}

func TestPopAgain(t *testing.T) {
	s := stackOf("\x7f\x7e\x7d")
	for _, want := range []answer{{t: 0x7d}, {t: 0x7e}, {e: api.ErrStack}, {e: api.ErrStack}} {
		if x, e := s.Pop(1, false); (answer{x, e}) != want {
			t.Errorf("Pop(1, false): %x, %d, want %x, %d", x, e, want.t, want.e)
		}
	}
	for range 3 {
		if x, e := s.Pop(1, true); x != opstack.Any || e != api.OK {
			t.Errorf("Pop(1, true): %x, %d", x, e)
		}
	}
	holds(t, "what is below the floor", s, "\x7f")
}

func wants(t *testing.T, entries string, x byte, floor int, free bool, want answer, left string) {
	t.Helper()
	s := stackOf(entries)
	if got, e := s.Want(x, floor, free); (answer{got, e}) != want {
		t.Errorf("Want(%x, %d, %t) of %x: %x, %d, want %x, %d", x, floor, free, entries, got, e, want.t, want.e)
	}
	holds(t, "Want", s, left)
}

func TestWant(t *testing.T) {
	rows := []struct {
		entries string
		t       byte
		floor   int
		free    bool
		want    answer
		left    string
	}{
		// where Pop fails
		{"", 0x7f, 0, false, answer{e: api.ErrStack}, ""},
		{"", 0, 0, false, answer{e: api.ErrStack}, ""},
		{"\x7f", 0x7f, 1, false, answer{e: api.ErrStack}, "\x7f"},
		{"\x7f", 0, 1, false, answer{e: api.ErrStack}, "\x7f"},
		{"\x7f\x7e", 0x7e, 5, false, answer{e: api.ErrStack}, "\x7f\x7e"},
		{"\x7f", 0x7f, -1, false, answer{t: 0x7f}, ""},
		// where the result is Any
		{"\x7f\x00", 0x7e, 0, false, answer{t: 0x7e}, "\x7f"},
		{"\x7f\x00", 0x7f, 1, true, answer{t: 0x7f}, "\x7f"},
		{"\x00", 0x55, 0, false, answer{t: 0x55}, ""},
		// where t is Any
		{"\x7f\x7e", 0, 0, false, answer{t: 0x7e}, "\x7f"},
		{"\x7f\x7e", 0, 1, true, answer{t: 0x7e}, "\x7f"},
		{"\x55", 0, 0, false, answer{t: 0x55}, ""},
		// where both are
		{"\x7f\x00", 0, 0, false, answer{t: 0}, "\x7f"},
		{"\x00", 0, 0, true, answer{t: 0}, ""},
		// where they are equal
		{"\x7f\x7e", 0x7e, 0, false, answer{t: 0x7e}, "\x7f"},
		{"\x7f\x7e", 0x7e, 1, true, answer{t: 0x7e}, "\x7f"},
		// where they differ
		{"\x7f\x7e", 0x7f, 0, false, answer{e: api.ErrStack}, "\x7f"},
		{"\x7f\x7e", 0x7f, 1, true, answer{e: api.ErrStack}, "\x7f"},
		{"\x01", 0xff, 0, false, answer{e: api.ErrStack}, ""},
		// with free at the floor
		{"", 0x7f, 0, true, answer{t: 0x7f}, ""},
		{"", 0, 0, true, answer{t: 0}, ""},
		{"\x7f", 0x7e, 1, true, answer{t: 0x7e}, "\x7f"},
		{"\x7f", 0, 1, true, answer{t: 0}, "\x7f"},
		{"\x7f", 0x7e, 2, true, answer{t: 0x7e}, "\x7f"},
		{"", 0x7e, -1, true, answer{t: 0x7e}, ""},
	}
	for _, r := range rows {
		wants(t, r.entries, r.t, r.floor, r.free, r.want, r.left)
	}
}

func TestWantOfAllBytes(t *testing.T) {
	for have := range 256 {
		entries := "\x7f" + string([]byte{byte(have)})
		for x := range 256 {
			want := answer{e: api.ErrStack}
			if have == x || have == 0 || x == 0 {
				// One of both is 0, or they are the same.
				want = answer{t: byte(have | x)}
			}
			wants(t, entries, byte(x), 1, false, want, "\x7f")
			wants(t, entries, byte(x), 0, true, want, "\x7f")
		}
		wants(t, entries, byte(have), 2, false, answer{e: api.ErrStack}, entries)
		wants(t, entries, byte(have), 2, true, answer{t: byte(have)}, entries)
	}
}

func TestWantOfFarFloors(t *testing.T) {
	for _, floor := range far() {
		wants(t, "", 0x7e, floor, false, answer{e: api.ErrStack}, "")
		wants(t, "", 0x7e, floor, true, answer{t: 0x7e}, "")
		if floor < 0 {
			wants(t, "\x7f\x7e", 0x7e, floor, false, answer{t: 0x7e}, "\x7f")
			wants(t, "\x7f\x7e", 0x7f, floor, true, answer{e: api.ErrStack}, "\x7f")
		} else {
			wants(t, "\x7f\x7e", 0x7e, floor, false, answer{e: api.ErrStack}, "\x7f\x7e")
			wants(t, "\x7f\x7e", 0x7f, floor, true, answer{t: 0x7f}, "\x7f\x7e")
		}
	}
}

func wantsAll(t *testing.T, entries, types string, floor int, free bool, want api.Errno, left string) {
	t.Helper()
	s := stackOf(entries)
	if e := s.WantAll(types, floor, free); e != want {
		t.Errorf("WantAll(%x, %d, %t) of %x: %d, want %d", trial.Short(types), floor, free, entries, e, want)
	}
	holds(t, "WantAll", s, left)
}

func TestWantAll(t *testing.T) {
	const bad = api.ErrStack
	rows := []struct {
		entries, types string
		floor          int
		free           bool
		want           api.Errno
		left           string
	}{
		// none
		{"", "", 0, false, 0, ""},
		{"", "", 5, false, 0, ""},
		{"", "", 0, true, 0, ""},
		{"\x7f\x7e", "", 0, false, 0, "\x7f\x7e"},
		{"\x7f\x7e", "", 2, false, 0, "\x7f\x7e"},
		{"\x7f\x7e", "", -1, true, 0, "\x7f\x7e"},
		// one
		{"\x7f\x7e", "\x7e", 0, false, 0, "\x7f"},
		{"\x7f\x7e", "\x7f", 0, false, bad, "\x7f"},
		{"\x7f\x7e", "\x00", 1, false, 0, "\x7f"},
		{"\x7f\x00", "\x55", 1, false, 0, "\x7f"},
		{"\x7f\x7e", "\x7e", 2, false, bad, "\x7f\x7e"},
		{"\x7f\x7e", "\x7f", 2, true, 0, "\x7f\x7e"},
		{"", "\x7f", 0, false, bad, ""},
		{"", "\x7f", 0, true, 0, ""},
		// several, from the last one on
		{"\x7f\x7e\x7d", "\x7e\x7d", 0, false, 0, "\x7f"},
		{"\x7f\x7e\x7d", "\x7f\x7e\x7d", 0, false, 0, ""},
		{"\x7f\x7e\x7d", "\x7f\x7e\x7d", -7, true, 0, ""},
		{"\x7f\x7e\x7d", "\x00\x7e\x00", 0, false, 0, ""},
		{"\x7f\x00\x7d", "\x7f\x01\x7d", 0, false, 0, ""},
		{"\x7f\x7e\x7d", "\x7d\x7e", 0, false, bad, "\x7f\x7e"},
		{"\x7f\x7f\x7e\x7e", "\x7e\x7f", 0, false, bad, "\x7f\x7f\x7e"},
		// the first one, a middle one, and the last one is wrong
		{"\x7e\x7f\x7e\x7d", "\x55\x7e\x7d", 0, false, bad, "\x7e"},
		{"\x7e\x7f\x7e\x7d", "\x7f\x55\x7d", 0, false, bad, "\x7e\x7f"},
		{"\x7e\x7f\x7e\x7d", "\x7f\x7e\x55", 0, false, bad, "\x7e\x7f\x7e"},
		{"\x7e\x7f\x7e\x7d", "\x55\x7e\x7d", 1, true, bad, "\x7e"},
		{"\x7e\x7f\x7e\x7d", "\x7f\x55\x7d", 1, true, bad, "\x7e\x7f"},
		{"\x7e\x7f\x7e\x7d", "\x7f\x7e\x55", 1, true, bad, "\x7e\x7f\x7e"},
		{"\x7e\x7f\x7e\x7d", "\x55\x55\x55", 0, false, bad, "\x7e\x7f\x7e"},
		// they end too early: for the first one, for a middle one, and for the last one
		{"\x7e\x7d", "\x7f\x7e\x7d", 0, false, bad, ""},
		{"\x7d", "\x7f\x7e\x7d", 0, false, bad, ""},
		{"", "\x7f\x7e\x7d", 0, false, bad, ""},
		{"\x7f\x7e\x7d", "\x7f\x7e\x7d", 1, false, bad, "\x7f"},
		{"\x7f\x7e\x7d", "\x7f\x7e\x7d", 2, false, bad, "\x7f\x7e"},
		{"\x7f\x7e\x7d", "\x7f\x7e\x7d", 3, false, bad, "\x7f\x7e\x7d"},
		{"\x7f\x7e\x7d", "\x7f\x7e\x7d", 4, false, bad, "\x7f\x7e\x7d"},
		// with a floor that is not reached, and one that is reached just now
		{"\x7f\x7e\x7d", "\x7e\x7d", 1, false, 0, "\x7f"},
		{"\x55\x7f\x7e\x7d", "\x7e\x7d", 1, false, 0, "\x55\x7f"},
		// with free at the floor in the middle: all that is missing there is taken as it is wanted
		{"\x7e\x7d", "\x7f\x7e\x7d", 0, true, 0, ""},
		{"\x55\x7e\x7d", "\x7f\x7e\x7d", 1, true, 0, "\x55"},
		{"\x55\x66\x7d", "\x01\x7e\x7d", 2, true, 0, "\x55\x66"},
		{"\x55\x7e\x7d", "\x7f\x7e\x66", 1, true, bad, "\x55\x7e"},
		{"\x55\x7e\x7d", "\x7f\x66\x7d", 1, true, bad, "\x55"},
		{"\x55\x66", "\x7f\x7e\x7d", 2, true, 0, "\x55\x66"},
		{"\x55\x66", "\x7f\x7e\x7d", 9, true, 0, "\x55\x66"},
	}
	for _, r := range rows {
		wantsAll(t, r.entries, r.types, r.floor, r.free, r.want, r.left)
	}
}

func TestWantAllOfMany(t *testing.T) {
	many := strings.Repeat("\x7f\x7e\x7d", 30000)
	wantsAll(t, "\x7f\x7e"+many, many, 2, false, api.OK, "\x7f\x7e")
	wantsAll(t, many+many, "\x55"+many[1:], 0, false, api.ErrStack, many)
	wantsAll(t, "\x7f\x7d", many, 1, true, api.OK, "\x7f")
	wantsAll(t, "\x7f\x7d", many, 1, false, api.ErrStack, "\x7f")
}

func TestWantAllOfFarFloors(t *testing.T) {
	for _, floor := range far() {
		wantsAll(t, "", "\x7f\x7e", floor, false, api.ErrStack, "")
		wantsAll(t, "", "\x7f\x7e", floor, true, api.OK, "")
		if floor < 0 {
			wantsAll(t, "\x55\x7f\x7e", "\x7f\x7e", floor, false, api.OK, "\x55")
			wantsAll(t, "\x55\x7f\x7e", "\x7f\x7d", floor, true, api.ErrStack, "\x55\x7f")
		} else {
			wantsAll(t, "\x55\x7f\x7e", "\x7f\x7e", floor, false, api.ErrStack, "\x55\x7f\x7e")
			wantsAll(t, "\x55\x7f\x7e", "\x7f\x7d", floor, true, api.OK, "\x55\x7f\x7e")
		}
	}
}

// The model of a Stack is the string of its entries, from bottom to top. Its calls return what is left of it.

func popped(m string, floor int, free bool) (string, answer) {
	switch {
	case m != "" && len(m) > floor:
		return m[:len(m)-1], answer{t: m[len(m)-1]}
	case free:
		return m, answer{}
	}
	return m, answer{e: api.ErrStack}
}

func wanted(m string, x byte, floor int, free bool) (string, answer) {
	left, a := popped(m, floor, free)
	switch {
	case a.e != api.OK:
		return left, a
	case a.t != 0 && x != 0 && a.t != x:
		return left, answer{e: api.ErrStack}
	}
	return left, answer{t: max(a.t, x)}
}

func wantedAll(m, types string, floor int, free bool) (string, answer) {
	if types == "" {
		return m, answer{}
	}
	rest := len(types) - 1
	left, a := wanted(m, types[rest], floor, free)
	if a.e != api.OK {
		return left, a
	}
	return wantedAll(left, types[:rest], floor, free)
}

func kept(m string, n int) string {
	if n < 0 || n >= len(m) {
		return m
	}
	return m[:n]
}

// call is one of the calls that may change a Stack, with those of its arguments that it takes.
type call struct {
	name  string
	types string // one of them for Push and Want
	n     int    // the floor, or what Cut keeps
	free  bool
}

// run performs the call on a Stack, and tells what it returns.
func (c call) run(s *opstack.Stack) (a answer) {
	switch c.name {
	case "Push":
		s.Push(c.types[0])
	case "PushAll":
		s.PushAll(c.types)
	case "Pop":
		a.t, a.e = s.Pop(c.n, c.free)
	case "Want":
		a.t, a.e = s.Want(c.types[0], c.n, c.free)
	case "WantAll":
		a.e = s.WantAll(c.types, c.n, c.free)
	case "Cut":
		s.Cut(c.n)
	}
	return a
}

// model performs the call on the model.
func (c call) model(m string) (string, answer) {
	switch c.name {
	case "Push":
		return m + c.types[:1], answer{}
	case "Pop":
		return popped(m, c.n, c.free)
	case "Want":
		return wanted(m, c.types[0], c.n, c.free)
	case "WantAll":
		return wantedAll(m, c.types, c.n, c.free)
	case "Cut":
		return kept(m, c.n), answer{}
	}
	return m + c.types, answer{} // PushAll
}

// pair is a Stack with its model.
type pair struct {
	s *opstack.Stack
	m string
}

// do performs a call on both, and tells whether they agree.
func (p *pair) do(t *testing.T, c call) bool {
	t.Helper()
	before := p.m
	m, want := c.model(p.m)
	p.m = m
	if got := c.run(p.s); got != want {
		t.Errorf("%+v of %x: %x, want %x", c, trial.Short(before), got, want)
		return false
	}
	return p.agrees(t)
}

func (p *pair) agrees(t *testing.T) bool {
	t.Helper()
	if got := string(p.s.List()); got != p.m || p.s.Len() != len(p.m) {
		t.Errorf("%d entries, %x, want %d, %x", p.s.Len(), trial.Short(got), len(p.m), trial.Short(p.m))
		return false
	}
	return true
}

// TestShortSequences performs all sequences of three of some calls, on Stacks of some lengths.
func TestShortSequences(t *testing.T) {
	list := []call{
		{name: "Push", types: i32}, {name: "Push", types: unknown},
		{name: "PushAll"}, {name: "PushAll", types: i32 + i64}, {name: "PushAll", types: unknown + i64 + i32},
		{name: "Pop"}, {name: "Pop", n: 1}, {name: "Pop", n: 2, free: true}, {name: "Pop", n: -1, free: true},
		{name: "Want", types: i32}, {name: "Want", types: i64, n: 1}, {name: "Want", types: unknown, n: 2, free: true},
		{name: "Want", types: i32, free: true},
		{name: "WantAll"}, {name: "WantAll", types: i64 + i32}, {name: "WantAll", types: i32 + unknown + i64, n: 1, free: true},
		{name: "WantAll", types: i64 + unknown, n: 2},
		{name: "Cut"}, {name: "Cut", n: 1}, {name: "Cut", n: 2}, {name: "Cut", n: 3}, {name: "Cut", n: -1},
	}
	for _, entries := range []string{"", i32, i32 + i64, i64 + unknown + i32 + i64} {
		trial.Words(list, 3, func(word []call) {
			p := pair{stackOf(entries), entries}
			for _, c := range word {
				if !p.do(t, c) {
					t.Errorf("in %+v of %x", word, entries)
					return
				}
			}
		})
	}
}

// callOf is a call by chance, whose floor is often near the height of the Stack, and whose types often are those on top.
func callOf(next func(n int) int, m string) call {
	const alphabet = i32 + i64 + unknown
	c := call{name: []string{"Push", "PushAll", "Pop", "Want", "WantAll", "Cut"}[next(6)], free: next(2) > 0}
	for range next(5) {
		c.types += string(alphabet[next(len(alphabet))])
	}
	if next(3) > 0 {
		top := m[len(m)-min(len(m), next(5)):]
		c.types = top
		if next(3) == 0 && len(m) > len(top) {
			c.types = i32 + top
		}
	}
	if c.types == "" && (c.name == "Push" || c.name == "Want") {
		c.types = i64
	}
	c.n = len(m) - next(6) + 1
	if next(8) == 0 {
		c.n = far()[next(len(far()))]
	}
	if c.name == "Cut" && next(4) > 0 {
		// Otherwise the Stacks remain low.
		c.n = len(m)
	}
	return c
}

// TestLongSequences performs calls by chance on several Stacks, some of which are copies of others, and looks at all of them, and at earlier lists, behind each.
func TestLongSequences(t *testing.T) {
	next, highest := trial.Chance(21), 0
	list := []pair{{s: &opstack.Stack{}}, {s: &opstack.Stack{}}, {s: &opstack.Stack{}}, {s: &opstack.Stack{}}}
	earlier := make([][]byte, len(list))
	told := make([]string, len(list))
	for range 100000 {
		at := next(len(list))
		if next(10) == 0 {
			from := list[next(len(list))]
			list[at] = pair{from.s.Clone(), from.m}
			earlier[at], told[at] = list[at].s.List(), from.m
		}
		list[at].do(t, callOf(next, list[at].m))
		highest = max(highest, len(list[at].m))
		for i, p := range list {
			if !p.agrees(t) || string(earlier[i]) != told[i] {
				t.Fatalf("Stack %d, or an earlier list: %x, want %x", i, earlier[i], told[i])
			}
		}
	}
	if highest < 20 {
		t.Errorf("the highest Stack had only %d entries", highest)
	}
}

// P21.3

// lists are strings to push: all of up to four of three types, all single bytes, and some by chance.
func lists() []string {
	var all []string
	for n := range 5 {
		trial.Words([]byte{0x7f, 0x7e, 0}, n, func(word []byte) { all = append(all, string(word)) })
	}
	for x := range 256 {
		all = append(all, string([]byte{byte(x)}))
	}
	next := trial.Chance(3)
	for range 100 {
		b := make([]byte, next(300))
		for i := range b {
			b[i] = byte(next(256))
		}
		all = append(all, string(b))
	}
	return all
}

func TestPushedIsWanted(t *testing.T) {
	for _, below := range []string{"", i32, unknown + i64 + unknown} {
		for _, types := range lists() {
			for _, free := range []bool{false, true} {
				s := stackOf(below)
				s.PushAll(types)
				for _, x := range slices.Backward([]byte(types)) {
					if got, e := s.Want(x, len(below), free); got != x || e != api.OK {
						t.Errorf("Want(%x) behind PushAll(%x): %x, %d", x, types, got, e)
					}
				}
				holds(t, "PushAll and Want", s, below)
				for _, x := range []byte(types) {
					s.Push(x)
				}
				if e := s.WantAll(types, len(below), free); e != api.OK {
					t.Errorf("WantAll(%x) behind Push: %d", types, e)
				}
				holds(t, "Push and WantAll", s, below)
				s.PushAll(types)
				if e := s.WantAll(types, 0, free); e != api.OK {
					t.Errorf("WantAll(%x) behind PushAll: %d", types, e)
				}
				holds(t, "PushAll and WantAll", s, below)
			}
		}
	}
}

// The chapter's example.

func TestExample(t *testing.T) {
	s := &opstack.Stack{}
	s.Push(0x7f)
	if x, e := s.Want(0x7e, 0, false); x != 0 || e != api.ErrStack {
		t.Errorf("Want(7e): %x, %d", x, e)
	}
	if s.Len() != 0 {
		t.Errorf("Len: %d", s.Len())
	}
}

// P1

func TestCallsEndForAllArguments(t *testing.T) {
	long := strings.Repeat("\x00\x7f", 1<<16)
	for _, n := range append(far(), -1, 0, 1, 2) {
		for _, free := range []bool{false, true} {
			for _, entries := range []string{"", i32, long} {
				s := stackOf(entries)
				s.Pop(n, free)
				s.Want(0x7f, n, free)
				s.WantAll(long, n, free)
				s.Cut(n)
				s.PushAll(entries)
				s.Clone().Cut(n)
			}
		}
	}
}

// P2

// TestFailedCallsHaveNoEffect has calls behind failed ones that answer as if these had not been.
func TestFailedCallsHaveNoEffect(t *testing.T) {
	failed := []call{
		{name: "Pop", n: 3}, {name: "Want", types: i64, n: 3}, {name: "Want", types: unknown, n: 5},
		{name: "WantAll", types: i32 + i64, n: 3}, {name: "Cut", n: 3}, {name: "Cut", n: -1},
	}
	for _, c := range failed {
		for name, change := range changes() {
			s, alone := stackOf(i32+i64+i64), stackOf(i32+i64+i64)
			c.run(s)
			holds(t, c.name, s, i32+i64+i64)
			change(s)
			change(alone)
			holds(t, c.name+", "+name, s, string(alone.List()))
		}
	}
}
