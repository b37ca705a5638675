package trial_test

import (
	"slices"
	"strings"
	"testing"

	"creel/abort"
	"creel/api"
	"creel/scan"
	"creel/trial"
)

// names is a layer that is right, and asks none but the scanner.
func names() trial.Layer[string] {
	return trial.Layer[string]{
		Right:  trial.NameError,
		Put:    put,
		Get:    (*scan.Scanner).Name,
		GetAll: getAll,
		PutAll: putAll,

		ModelRight: trial.NameError,
		ModelPut:   trial.Sized,
		ModelGet:   (*trial.Model).Name,

		Samples: func() []trial.Sample[string] {
			return []trial.Sample[string]{{E: "a", B: "\x01a"}, {E: "", B: "\x00"}, {E: "bcd", B: "\x03bcd"}}
		},
		Wrong: func() []trial.Bad[string] {
			return []trial.Bad[string]{{E: "\xff", Why: 4}, {E: strings.Repeat("n", 201), Why: 13}}
		},
		Broken: trial.BrokenNames(""),
		Any:    func(next func(n int) int) string { return strings.Repeat("n", next(201)) },
		Other:  "other",
		Same:   func(a, b string) bool { return a == b },
		Tell:   func(s string) any { return trial.Short(s) },
	}
}

func put(s string) ([]byte, api.Errno) {
	if e := trial.NameError(s); e != 0 {
		return nil, e
	}
	return []byte(trial.Sized(s)), 0
}

func getAll(s *scan.Scanner) []string {
	var list []string
	for range s.Count() {
		list = append(list, s.Name())
	}
	s.End()
	return list
}

func putAll(list []string) ([]byte, api.Errno) {
	if len(list) > 10000 {
		return nil, 29
	}
	b := []byte(trial.Uint(len(list)))
	for _, s := range list {
		one, e := put(s)
		if e != 0 {
			return nil, e
		}
		b = append(b, one...)
	}
	return b, 0
}

// faults counts the errors that the tests of a layer find.
func faults(l trial.Layer[string]) int {
	var found errors
	l.TestPut(&found)
	l.TestGet(&found)
	l.TestGetInTurn(&found)
	l.TestBroken(&found)
	l.TestCutOff(&found, "\x82\x00ab", []int{0, 2})
	l.TestBytes(&found, "\x02ab")
	l.TestWords(&found, "\x00\x01\x02\x80\xff", 4, "\x01a")
	l.TestGetAll(&found)
	l.TestGetAllOfAnotherNumber(&found)
	l.TestPutAll(&found)
	l.TestPutAllOfWrongOnes(&found)
	l.TestMost(&found, slices.Repeat([]string{"a"}, 10001))
	l.TestInverse(&found)
	l.TestManyBytes(&found)
	l.TestArguments(&found)
	l.TestKept(&found)
	l.TestNew(&found)
	l.TestCalls(&found)
	return int(found)
}

func TestLayerThatIsRight(t *testing.T) {
	if n := faults(names()); n != 0 {
		t.Errorf("%d errors", n)
	}
}

// TestLayerThatIsWrong spoils one thing at a time.
func TestLayerThatIsWrong(t *testing.T) {
	var kept []byte
	var told []string
	calls := 0
	for what, spoil := range map[string]func(l *trial.Layer[string]){
		"Right takes all": func(l *trial.Layer[string]) {
			l.Right = func(string) api.Errno { return 0 }
		},
		"Put has another error": func(l *trial.Layer[string]) {
			l.Put = func(s string) ([]byte, api.Errno) { b, e := put(s); return b, min(e, 4) }
		},
		"Put has bytes beside an error": func(l *trial.Layer[string]) {
			l.Put = func(s string) ([]byte, api.Errno) { _, e := put(s); return []byte(trial.Sized(s)), e }
		},
		"Put has longer numbers": func(l *trial.Layer[string]) {
			l.Put = func(s string) ([]byte, api.Errno) {
				b, e := put(s)
				if e == 0 && len(s) < 128 {
					b = slices.Concat([]byte{byte(len(s)) + 128, 0}, []byte(s))
				}
				return b, e
			}
		},
		"Put shares its results": func(l *trial.Layer[string]) {
			l.Put = func(s string) ([]byte, api.Errno) {
				b, e := put(s)
				if e == 0 && s == "bcd" {
					if kept == nil {
						kept = b
					}
					return kept, 0
				}
				return b, e
			}
		},
		"Get goes on": func(l *trial.Layer[string]) {
			l.Get = func(s *scan.Scanner) string { defer s.Bytes(min(s.Left(), 1)); return s.Name() }
		},
		"Get does not check": func(l *trial.Layer[string]) {
			l.Get = func(s *scan.Scanner) string { return string(s.Bytes(int(s.Index()))) }
		},
		"Get has no places": func(l *trial.Layer[string]) {
			l.Get = func(s *scan.Scanner) (name string) {
				stop := abort.Out(func() { name = s.Name() })
				abort.Unless(stop.Why == 0, stop.Why, 0)
				return name
			}
		},
		"GetAll does not ask for the end": func(l *trial.Layer[string]) {
			l.GetAll = func(s *scan.Scanner) []string {
				list := make([]string, s.Count())
				for at := range list {
					list[at] = s.Name()
				}
				return list
			}
		},
		"GetAll has no limit": func(l *trial.Layer[string]) {
			l.GetAll = func(s *scan.Scanner) []string {
				list := make([]string, 0)
				for range s.Index() {
					list = append(list, s.Name())
				}
				s.End()
				return list
			}
		},
		"GetAll has a lower limit": func(l *trial.Layer[string]) {
			l.GetAll = func(s *scan.Scanner) []string {
				list := getAll(s)
				abort.Unless(len(list) < 10000, 29, 0)
				return list
			}
		},
		"GetAll turns the list about": func(l *trial.Layer[string]) {
			l.GetAll = func(s *scan.Scanner) []string { list := getAll(s); slices.Reverse(list); return list }
		},
		"GetAll shares its results": func(l *trial.Layer[string]) {
			l.GetAll = func(s *scan.Scanner) []string {
				list := getAll(s)
				if !slices.Equal(list, []string{"bcd", "bcd"}) {
					return list
				}
				if told == nil {
					told = list
				}
				return told
			}
		},
		"PutAll has no limit": func(l *trial.Layer[string]) {
			l.PutAll = func(list []string) ([]byte, api.Errno) {
				b := []byte(trial.Uint(len(list)))
				for _, s := range list {
					one, e := put(s)
					if e != 0 {
						return nil, e
					}
					b = append(b, one...)
				}
				return b, 0
			}
		},
		"PutAll has the last error": func(l *trial.Layer[string]) {
			l.PutAll = func(list []string) ([]byte, api.Errno) {
				list = slices.Clone(list)
				slices.Reverse(list)
				return putAll(list)
			}
		},
		"PutAll has bytes beside an error": func(l *trial.Layer[string]) {
			l.PutAll = func(list []string) ([]byte, api.Errno) {
				b, e := putAll(list)
				if e != 0 {
					b = []byte{0}
				}
				return b, e
			}
		},
		"PutAll asks for errors ahead of the limit": func(l *trial.Layer[string]) {
			l.PutAll = func(list []string) ([]byte, api.Errno) {
				for _, s := range list {
					if e := trial.NameError(s); e != 0 {
						return nil, e
					}
				}
				return putAll(list)
			}
		},
		"PutAll changes the list": func(l *trial.Layer[string]) {
			l.PutAll = func(list []string) ([]byte, api.Errno) {
				b, e := putAll(list)
				slices.Sort(list)
				return b, e
			}
		},
		"a call matters": func(l *trial.Layer[string]) {
			l.Right = func(s string) api.Errno {
				calls++
				if e := trial.NameError(s); e != 0 || calls%1000 > 0 {
					return e
				}
				return 4
			}
		},
	} {
		l := names()
		spoil(&l)
		if faults(l) == 0 {
			t.Errorf("%s: no test finds it", what)
		}
	}
}

// lateNames is a layer that is right, of which Right asks only how long a name is.
func lateNames() trial.Layer[string] {
	l := names()
	l.Right = func(s string) api.Errno {
		if len(s) > 200 {
			return 13
		}
		return 0
	}
	l.ModelRight = l.Right
	l.ModelLate = trial.NameError
	return l
}

// TestLateErrors: where Put has errors that Right does not ask for, they are found missing, and found where Right asks for them.
func TestLateErrors(t *testing.T) {
	if n := faults(lateNames()); n != 0 {
		t.Errorf("%d errors", n)
	}
	early := lateNames()
	early.Right = trial.NameError
	if faults(early) == 0 {
		t.Errorf("Right asks for all errors: no test finds it")
	}
	never := lateNames()
	never.Put = func(s string) ([]byte, api.Errno) {
		if e := never.Right(s); e != 0 {
			return nil, e
		}
		return []byte(trial.Sized(s)), 0
	}
	if faults(never) == 0 {
		t.Errorf("Put asks for no more than Right: no test finds it")
	}
}

// TestBroken: what is broken is so, whatever follows, and where it is said to be.
func TestBroken(t *testing.T) {
	for _, lead := range []string{"", "\x01a"} {
		list := trial.BrokenNames(lead)
		if len(list) < 20 {
			t.Errorf("%d", len(list))
		}
		for _, x := range list {
			for _, more := range []string{"", "\x00", "\xff"} {
				m := trial.NewModel(x.B + more)
				m.Bytes(len(lead))
				m.Name()
				if m.Stop != (abort.Stop{Why: x.Why, At: x.At}) {
					t.Errorf("% x: %v, want %d at %d", trial.Short(x.B), m.Stop, x.Why, x.At)
				}
			}
		}
	}
	list := trial.BrokenBytes(trial.UpTo(3, 43), "", "ab")
	if len(list) != 504 || list[0] != (trial.Broken{B: "\x04", Why: 43}) || list[503] != (trial.Broken{B: "ab\xff", Why: 43, At: 2}) {
		t.Errorf("%d: %v, %v", len(list), list[0], list[len(list)-1])
	}
}

func TestNames(t *testing.T) {
	seen := map[api.Errno]int{}
	for _, n := range trial.Names() {
		if e := trial.NameError(n.S); e != n.Why {
			t.Errorf("%q: %d, want %d", trial.Short(n.S), e, n.Why)
		}
		seen[n.Why]++
	}
	if len(seen) != 3 {
		t.Errorf("%v", seen)
	}
}
