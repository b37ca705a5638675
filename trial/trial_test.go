package trial_test

import (
	"math"
	"slices"
	"strings"
	"testing"

	"creel/abort"
	"creel/api"
	"creel/scan"
	"creel/trial"
)

func TestWords(t *testing.T) {
	for _, x := range []struct {
		n    int
		want string
	}{
		{0, " "},
		{1, " a b"},
		{2, " aa ab ba bb"},
		{3, " aaa aab aba abb baa bab bba bbb"},
	} {
		got := ""
		trial.Words([]byte("ab"), x.n, func(word []byte) { got += " " + string(word) })
		if got != x.want {
			t.Errorf("%d:%s, want%s", x.n, got, x.want)
		}
	}
}

// TestWordsAreTheirOwn keeps them: none changes with the next one.
func TestWordsAreTheirOwn(t *testing.T) {
	var all [][]byte
	trial.Words([]byte("abc"), 5, func(word []byte) { all = append(all, word) })
	seen := map[string]bool{}
	for _, word := range all {
		seen[string(word)] = true
	}
	if len(seen) != 243 {
		t.Errorf("%d words", len(seen))
	}
}

func TestChance(t *testing.T) {
	first, second := trial.Chance(5), trial.Chance(5)
	seen := map[int]bool{}
	for range 1000 {
		n := first(7)
		if n != second(7) || n < 0 || n > 6 {
			t.Fatalf("%d", n)
		}
		seen[n] = true
	}
	if len(seen) != 7 {
		t.Errorf("%d numbers", len(seen))
	}
}

func TestSpoil(t *testing.T) {
	list := []int{1, 2, 3, 4, 5}
	trial.Spoil(list[1:2:4], 9)
	if !slices.Equal(list, []int{1, 9, 9, 9, 5}) {
		t.Errorf("%d", list)
	}
	trial.Spoil[int](nil, 9)
}

func TestUint(t *testing.T) {
	for _, x := range []struct {
		n    uint64
		want string
	}{{0, "\x00"}, {127, "\x7f"}, {128, "\x80\x01"}, {624485, "\xe5\x8e\x26"}, {math.MaxUint64, "\xff\xff\xff\xff\xff\xff\xff\xff\xff\x01"}} {
		if got := trial.Uint(x.n); got != x.want {
			t.Errorf("%d: % x", x.n, got)
		}
	}
}

func TestPlaces(t *testing.T) {
	for _, p := range trial.Places([]byte{1, 2, 3}) {
		if p.S.At() != p.At || p.S.Left() != 3 || string(p.S.Bytes(3)) != "\x01\x02\x03" {
			t.Errorf("%s: At %d, Left %d", p.What, p.S.At(), p.S.Left())
		}
	}
}

// TestModel has an element of each kind, with what is wrong with it.
func TestModel(t *testing.T) {
	name := func(m *trial.Model) any { return m.Name() }
	index := func(m *trial.Model) any { return m.Index() }
	count := func(m *trial.Model) any { return m.Count() }
	limits := func(m *trial.Model) any { return m.Limits() }
	global := func(m *trial.Model) any { return m.GlobalType() }
	end := func(m *trial.Model) any { m.End(); return nil }
	only := func(m *trial.Model) any { return m.Byte(trial.Only(5, 7)) }
	list := func(m *trial.Model) any { return len(trial.List(m, (*trial.Model).Name)) }
	for n, x := range []struct {
		read func(m *trial.Model) any
		b    string
		want any
		at   int
		why  api.Errno
	}{
		{only, "\x05\x06", byte(5), 1, 0},
		{only, "\x06", nil, 0, 7},
		{only, "", nil, 0, 2},
		{index, "\x85\x80\x00\x01", uint32(5), 3, 0},
		{index, "\xff\xff\xff\xff\x0f", uint32(math.MaxUint32), 5, 0},
		{index, "\xff\xff\xff\xff\x1f", nil, 0, 3},
		{index, "\x80\x80\x80\x80\x80\x00", nil, 0, 3},
		{index, "\x80\x80", nil, 0, 2},
		{count, "\x90\x4e", 10000, 2, 0},
		{count, "\x91\x4e", nil, 0, 29},
		{name, "\x02abc", "ab", 3, 0},
		{name, "\xc8\x01" + strings.Repeat("n", 200), strings.Repeat("n", 200), 202, 0},
		{name, "\xc9\x01", nil, 0, 13},
		{name, "\x02a", nil, 1, 2},
		{name, "\x02a\xff", nil, 1, 4},
		{name, "\x80", nil, 0, 2},
		{limits, "\x00\x03\x04", api.Limits{Min: 3}, 2, 0},
		{limits, "\x01\x03\x04", api.Limits{Min: 3, Max: 4, Bound: true}, 3, 0},
		{limits, "\x02\x03\x04", nil, 0, 10},
		{limits, "\x01\x03", nil, 2, 2},
		{global, "\x7f\x00", api.GlobalType{T: 0x7f}, 2, 0},
		{global, "\x7e\x01", api.GlobalType{T: 0x7e, Mut: true}, 2, 0},
		{global, "\x7d\x02", nil, 0, 8},
		{global, "\x70\x02", nil, 0, 7},
		{global, "\x7f\x02", nil, 1, 10},
		{global, "\x7f", nil, 1, 2},
		{end, "", nil, 0, 0},
		{end, "a", nil, 0, 14},
		{list, "\x02\x01a\x00", 2, 4, 0},
		{list, "\x02\x01a", nil, 3, 2},
		{list, "\x01\x01a\x00", nil, 3, 14},
		{list, "\x91\x4e", nil, 0, 29},
	} {
		m := trial.NewModel(x.b)
		got := x.read(m)
		if m.Stop.Why != x.why || x.why != 0 && m.Stop.At != x.at {
			t.Errorf("%d: %v, want %d at %d", n, m.Stop, x.why, x.at)
		}
		if x.why == 0 && (got != x.want || m.At != x.at) {
			t.Errorf("%d: %v, then At %d, want %v, then %d", n, got, m.At, x.want, x.at)
		}
	}
}

// TestFirstErrorOfAModel: what is behind it does not count.
func TestFirstErrorOfAModel(t *testing.T) {
	m := trial.NewModel("\x05\x00\x00")
	m.Byte(trial.UpTo(4, 9))
	m.Fail(1, 1)
	m.Byte(trial.Only(1, 2))
	m.Name()
	m.GlobalType()
	m.End()
	if m.Stop != (abort.Stop{Why: 9, At: 0}) {
		t.Errorf("%v", m.Stop)
	}
}

// errors counts those of a check.
type errors int

func (e *errors) Helper() {}

func (e *errors) Errorf(string, ...any) { *e++ }

// TestReader has readers that are right, and wrong in each way.
func TestReader(t *testing.T) {
	right := func(s *scan.Scanner) string { return s.Name() }
	for n, x := range []struct {
		read  func(s *scan.Scanner) string
		finds bool
	}{
		{right, false},
		{func(s *scan.Scanner) string { return s.Name() + "!" }, true},
		{func(s *scan.Scanner) string { defer s.Byte(); return s.Name() }, true},
		{func(s *scan.Scanner) string { return "" }, true},
		{func(s *scan.Scanner) string { abort.Now(2, s.At()); return "" }, true},
		{func(s *scan.Scanner) string { abort.Unless(s.At() < 500, 2, s.At()); return s.Name() }, true},
		{func(s *scan.Scanner) (name string) { // errors of another number
			stop := abort.Out(func() { name = s.Name() })
			abort.Unless(stop.Why == 0, stop.Why+1, stop.At)
			return name
		}, true},
		{func(s *scan.Scanner) (name string) { // and at another place
			stop := abort.Out(func() { name = s.Name() })
			abort.Unless(stop.Why == 0, stop.Why, s.At()+1)
			return name
		}, true},
	} {
		r := trial.Reader[string]{
			Name:  "Name",
			Read:  x.read,
			Model: (*trial.Model).Name,
			Same:  func(a, b string) bool { return a == b },
			Tell:  func(v string) any { return v },
		}
		var found errors
		for _, b := range []string{"\x01ab", "\x00ab", "\x02a", "\x01\xff", "\x80", ""} {
			r.Agrees(&found, b)
		}
		if (found > 0) != x.finds {
			t.Errorf("reader %d: %d errors", n, found)
		}
	}
}
