package wire_test

import (
	"strings"
	"testing"

	"creel/abort"
	"creel/api"
	"creel/scan"
	"creel/trial"
	"creel/utf"
	"creel/wire"
)

func TestSize(t *testing.T) {
	for _, x := range []struct {
		n    int
		want string
	}{{0, "\x00"}, {1, "\x01"}, {127, "\x7f"}, {128, "\x80\x01"}, {10000, "\x90\x4e"}, {1<<31 - 1, "\xff\xff\xff\xff\x07"}} {
		if got := wire.Size(x.n); string(got) != x.want {
			t.Errorf("Size(%d): % x, want % x", x.n, got, x.want)
		}
	}
}

func TestName(t *testing.T) {
	long := strings.Repeat("n", 128)
	for s, want := range map[string]string{"": "\x00", "a": "\x01a", "\u20ac": "\x03\xe2\x82\xac", long[:127]: "\x7f" + long[:127], long: "\x80\x01" + long} {
		if got := wire.Name(s); string(got) != want {
			t.Errorf("Name(%q): % x, want % x", s, got, want)
		}
	}
}

func TestKind(t *testing.T) {
	kind := trial.Reader[byte]{
		Name:  "Kind",
		Read:  wire.Kind,
		Model: func(m *trial.Model) byte { return m.Byte(trial.UpTo(3, 43)) },
		Same:  func(a, b byte) bool { return a == b },
		Tell:  func(k byte) any { return k },
	}
	kind.Refuses(t, "", 2, 0)
	for b := range 256 {
		s := string([]byte{byte(b)})
		if b < 4 {
			kind.Takes(t, s+s, byte(b), 1)
		} else {
			kind.Refuses(t, s+s, 43, 0)
		}
		kind.Agrees(t, s)
	}
}

// layer has names for elements.
var layer = trial.Layer[string]{
	Right:  utf.Check,
	Put:    put,
	Get:    (*scan.Scanner).Name,
	GetAll: func(s *scan.Scanner) []string { return wire.GetAll(s, (*scan.Scanner).Name) },
	PutAll: func(list []string) ([]byte, api.Errno) { return wire.PutAll(list, put) },

	ModelRight: trial.NameError,
	ModelPut:   trial.Sized,
	ModelGet:   (*trial.Model).Name,

	Samples: func() []trial.Sample[string] {
		long := strings.Repeat("n", 200)
		return []trial.Sample[string]{{E: "a", B: "\x01a"}, {E: "", B: "\x00"}, {E: long, B: "\xc8\x01" + long}}
	},
	Wrong: func() []trial.Bad[string] {
		return []trial.Bad[string]{{E: "\xff", Why: 4}, {E: strings.Repeat("n", 201), Why: 13}}
	},
	Broken: trial.BrokenNames(""),
	Any:    func(next func(n int) int) string { return strings.Repeat("n", next(201)) },
	Other:  "other",
	Same:   func(a, b string) bool { return a == b },
	Tell:   func(s string) any { return trial.Short(s) },
}

func put(name string) ([]byte, api.Errno) {
	if e := utf.Check(name); e != api.OK {
		return nil, e
	}
	return wire.Name(name), api.OK
}

func TestGetAll(t *testing.T) {
	layer.TestGetAll(t)
	layer.TestGetAllOfAnotherNumber(t)
	layer.TestBroken(t)
	layer.TestBytes(t, "\x02ab")
}

func TestPutAll(t *testing.T) {
	layer.TestPutAll(t)
	layer.TestPutAllOfWrongOnes(t)
}

func TestMost(t *testing.T) {
	list := make([]string, 10001)
	for at := range list {
		list[at] = trial.Uint(at % 128)
	}
	layer.TestMost(t, list)
	layer.TestInverse(t)
}

func TestMemory(t *testing.T) {
	layer.TestArguments(t)
	layer.TestKept(t)
	layer.TestNew(t)
	layer.TestCalls(t)
}

// TestErrorsOfAnElement: whatever stops one, stops the list, and nothing behind it is read.
func TestErrorsOfAnElement(t *testing.T) {
	read := 0
	list, stop := abort.Value(func() []int {
		return wire.GetAll(scan.Over([]byte("\x05")), func(s *scan.Scanner) int {
			read++
			abort.Unless(read < 3, api.ErrOp, 77)
			return read
		})
	})
	if len(list) != 0 || stop != (abort.Stop{Why: api.ErrOp, At: 77}) || read != 3 {
		t.Errorf("GetAll: %d, %v, %d read", list, stop, read)
	}
	written := 0
	b, e := wire.PutAll([]int{1, 2, 3, 4}, func(x int) ([]byte, api.Errno) {
		written++
		if x == 3 {
			return []byte("more"), api.ErrStack
		}
		return []byte("one"), api.OK
	})
	if len(b) != 0 || e != api.ErrStack || written != 3 {
		t.Errorf("PutAll: %q, %d, %d written", b, e, written)
	}
}
