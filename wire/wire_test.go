package wire_test

import (
	"slices"
	"strings"
	"testing"

	"creel/abort"
	"creel/api"
	"creel/scan"
	"creel/trial"
	"creel/utf"
	"creel/wire"
)

func TestSize(t *testing.T) {
	for _, x := range []struct {
		n    int
		want string
	}{{0, "\x00"}, {1, "\x01"}, {127, "\x7f"}, {128, "\x80\x01"}, {10000, "\x90\x4e"}, {1<<31 - 1, "\xff\xff\xff\xff\x07"}} {
		if got := wire.Size(x.n); string(got) != x.want {
			t.Errorf("Size(%d): % x, want % x", x.n, got, x.want)
		}
	}
}

func TestName(t *testing.T) {
	long := strings.Repeat("n", 128)
	for s, want := range map[string]string{"": "\x00", "a": "\x01a", "\u20ac": "\x03\xe2\x82\xac", long[:127]: "\x7f" + long[:127], long: "\x80\x01" + long} {
		if got := wire.Name(s); string(got) != want {
			t.Errorf("Name(%q): % x, want % x", s, got, want)
		}
	}
}

func TestSized(t *testing.T) {
	room := []byte(strings.Repeat("n", 200))
	for _, n := range []int{0, 1, 127, 128, 199} {
		want := trial.Sized(string(room[:n]))
		trial.Spoil(wire.Sized(room[:n]), 0xee)
		if got := wire.Sized(room[:n]); string(got) != want {
			t.Errorf("Sized of %d: % x, want % x", n, trial.Short(got), trial.Short(want))
		}
		if got := wire.Sized(string(room[:n])); string(got) != want {
			t.Errorf("Sized of a string of %d: % x, want % x", n, trial.Short(got), trial.Short(want))
		}
	}
	if none := wire.Sized[[]byte](nil); string(none) != "\x00" || string(room) != strings.Repeat("n", 200) {
		t.Errorf("Sized of none: % x, and the bytes are %q", none, room)
	}
}

// part reads all that there is in one, and looks at where it begins.
var part = trial.Reader[string]{
	Name: "Part",
	Read: func(s *scan.Scanner) string {
		part, from := wire.Part(s)
		abort.Unless(part.At() == 0 && from+part.Left() == s.At(), api.ErrArg, from)
		return string(part.Bytes(part.Left()))
	},
	Model: func(m *trial.Model) (all string) {
		m.Part(func(part *trial.Model) { all = part.Bytes(len(part.B) - part.At) })
		return all
	},
	Same: func(a, b string) bool { return a == b },
	Tell: func(s string) any { return trial.Short(s) },
}

func TestPart(t *testing.T) {
	part.Takes(t, "\x00", "", 1)
	part.Takes(t, "\x00ab", "", 1)
	part.Takes(t, "\x02abc", "ab", 3)
	part.Takes(t, "\x82\x80\x80\x80\x00ab", "ab", 7)
	part.Takes(t, "\x80\x01"+strings.Repeat("n", 129), strings.Repeat("n", 128), 130)
	part.Takes(t, "\xac\x02"+strings.Repeat("n", 301), strings.Repeat("n", 300), 302)
	part.Takes(t, "\x80\x80\x04"+strings.Repeat("n", 65537), strings.Repeat("n", 65536), 65539)
	part.Refuses(t, "", 2, 0)
	part.Refuses(t, "\x80", 2, 0)
	part.Refuses(t, "\x03ab", 2, 1)
	part.Refuses(t, "\x83\x00ab", 2, 2)
	part.Refuses(t, "\x80\x80\x80\x80\x08ab", 2, 5)
	part.Refuses(t, "\xff\xff\xff\xff\x0fab", 2, 5)
	for _, x := range trial.BrokenNumbers("") {
		part.Refuses(t, x.B+"ab", x.Why, x.At)
	}
	for n := range 6 {
		trial.Words([]byte{0, 1, 2, 0x7f, 0x80, 0xff}, n, func(w []byte) { part.Agrees(t, string(w)) })
	}
}

// whole reads a name, which has to be all that there is in one.
var whole = trial.Reader[string]{
	Name: "Whole",
	Read: func(s *scan.Scanner) (name string) {
		wire.Whole(s, func(part *scan.Scanner) { name = part.Name() })
		return name
	},
	Model: func(m *trial.Model) (name string) {
		m.Part(func(part *trial.Model) {
			name = part.Name()
			part.End()
		})
		return name
	},
	Same: func(a, b string) bool { return a == b },
	Tell: func(s string) any { return trial.Short(s) },
}

func TestWhole(t *testing.T) {
	long := strings.Repeat("n", 200)
	whole.Takes(t, "\x01\x00", "", 2)
	whole.Takes(t, "\x03\x02abc", "ab", 4)
	whole.Takes(t, "\x83\x00\x02abc", "ab", 5)
	whole.Takes(t, "\xca\x01\xc8\x01"+long+"\x00", long, 204)
	whole.Refuses(t, "", 2, 0)
	whole.Refuses(t, "\x00\x00", 2, 1)
	whole.Refuses(t, "\x01\x02ab", 2, 2)
	whole.Refuses(t, "\x02\x02ab", 2, 2)
	whole.Refuses(t, "\x82\x00\x02ab", 2, 3)
	whole.Refuses(t, "\x04\x02ab", 2, 1)
	whole.Refuses(t, "\x04\x02abc", 14, 4)
	whole.Refuses(t, "\x03\x02a\xff", 4, 2)
	whole.Refuses(t, "\xcb\x01\xc9\x01n"+long, 13, 2)
	for _, x := range trial.BrokenNames("\x80\x04") { // 512 bytes
		whole.Refuses(t, x.B+strings.Repeat("n", 512), x.Why, x.At)
	}
	for n := range 6 {
		trial.Words([]byte{0, 1, 2, 0x7f, 0x80, 0xff}, n, func(w []byte) { whole.Agrees(t, string(w)) })
	}
}

// TestWholeIsReadOnce: read is called once, and not at all where the part is not there.
func TestWholeIsReadOnce(t *testing.T) {
	for b, want := range map[string]int{"\x00": 1, "\x00\x00": 1, "\x01\x05": 1, "": 0, "\x80": 0, "\x01": 0, "\xff\xff\xff\xff\x1f": 0} {
		read := 0
		abort.Out(func() { wire.Whole(scan.Over([]byte(b)), func(*scan.Scanner) { read++ }) })
		if read != want {
			t.Errorf("Whole of % x: read %d times, want %d", b, read, want)
		}
	}
}

func TestKind(t *testing.T) {
	kind := trial.Reader[byte]{
		Name:  "Kind",
		Read:  wire.Kind,
		Model: func(m *trial.Model) byte { return m.Byte(trial.UpTo(3, 43)) },
		Same:  func(a, b byte) bool { return a == b },
		Tell:  func(k byte) any { return k },
	}
	kind.Refuses(t, "", 2, 0)
	for b := range 256 {
		s := string([]byte{byte(b)})
		if b < 4 {
			kind.Takes(t, s+s, byte(b), 1)
		} else {
			kind.Refuses(t, s+s, 43, 0)
		}
		kind.Agrees(t, s)
	}
}

func TestNought(t *testing.T) {
	nought := trial.Reader[int]{
		Name:  "Nought",
		Read:  func(s *scan.Scanner) int { wire.Nought(s); return s.At() },
		Model: func(m *trial.Model) int { m.Byte(trial.Only(0, 10)); return m.At },
		Same:  func(a, b int) bool { return a == b || b == 0 },
		Tell:  func(n int) any { return n },
	}
	nought.Refuses(t, "", 2, 0)
	for b := range 256 {
		s := string([]byte{byte(b)})
		if b == 0 {
			nought.Takes(t, s+s, 0, 1)
		} else {
			nought.Refuses(t, s+s, 10, 0)
		}
	}
}

func TestIndex(t *testing.T) {
	for n, want := range map[uint32]string{0: "\x00", 127: "\x7f", 128: "\x80\x01", 1 << 31: "\x80\x80\x80\x80\x08", 1<<32 - 1: "\xff\xff\xff\xff\x0f"} {
		if got := wire.Index(n); string(got) != want {
			t.Errorf("Index(%d): % x, want % x", n, got, want)
		}
	}
}

// items reads names behind their number.
var items = trial.Reader[[]string]{
	Name: "GetItems",
	Read: func(s *scan.Scanner) []string { return wire.GetItems(s, (*scan.Scanner).Name) },
	Model: func(m *trial.Model) []string {
		var list []string
		for n := m.Count(); n > 0 && !m.Failed(); n-- {
			list = append(list, m.Name())
		}
		return list
	},
	Same: slices.Equal[[]string],
	Tell: func(list []string) any { return list[:min(len(list), 9)] },
}

func TestItems(t *testing.T) {
	most := make([]string, 10001)
	for _, x := range []struct {
		list []string
		b    string
	}{
		{nil, "\x00"},
		{[]string{}, "\x00"},
		{[]string{""}, "\x01\x00"},
		{[]string{"bc", "", "a"}, "\x03\x02bc\x00\x01a"},
		{most[:127], "\x7f" + strings.Repeat("\x00", 127)},
		{most[:128], "\x80\x01" + strings.Repeat("\x00", 128)},
		{most[:10000], "\x90\x4e" + strings.Repeat("\x00", 10000)},
	} {
		if got := wire.Items(x.list, wire.Name); string(got) != x.b {
			t.Errorf("Items of %d: % x, want % x", len(x.list), trial.Short(got), trial.Short(x.b))
		}
		items.Takes(t, x.b+"\x05", x.list, len(x.b))
	}
	// How many there may be is asked by those who write them.
	if got := wire.Items(most, wire.Name); len(got) != 10003 || string(got[:3]) != "\x91\x4e\x00" {
		t.Errorf("Items of 10001: % x", trial.Short(got))
	}
}

func TestBrokenItems(t *testing.T) {
	items.Refuses(t, "\x91\x4e"+strings.Repeat("\x00", 10001), 29, 0)
	for _, x := range trial.BrokenNames("\x01", "\x02\x01a", "\x90\x4e\x00\x00") {
		items.Refuses(t, x.B+"\x00", x.Why, x.At)
	}
	for n := range 6 {
		trial.Words([]byte{0, 1, 2, 0x7f, 0x80, 0xff}, n, func(w []byte) { items.Agrees(t, string(w)) })
	}
}

// indices reads them behind their number.
var indices = trial.Reader[[]uint32]{
	Name: "GetIndices",
	Read: wire.GetIndices,
	Model: func(m *trial.Model) []uint32 {
		var list []uint32
		for n := m.Count(); n > 0 && !m.Failed(); n-- {
			list = append(list, m.Index())
		}
		return list
	},
	Same: slices.Equal[[]uint32],
	Tell: func(list []uint32) any { return list[:min(len(list), 9)] },
}

func TestIndices(t *testing.T) {
	most := make([]uint32, 10001)
	for _, x := range []struct {
		list []uint32
		b    string
		last int // where the last number begins
	}{
		{nil, "\x00", 0},
		{[]uint32{}, "\x00", 0},
		{[]uint32{0}, "\x01\x00", 1},
		{[]uint32{127, 128, 1<<32 - 1, 1 << 31}, "\x04\x7f\x80\x01\xff\xff\xff\xff\x0f\x80\x80\x80\x80\x08", 9},
		{most[:127], "\x7f" + strings.Repeat("\x00", 127), 127},
		{most[:128], "\x80\x01" + strings.Repeat("\x00", 128), 129},
		{most[:10000], "\x90\x4e" + strings.Repeat("\x00", 10000), 10001},
	} {
		if got := wire.Indices(x.list); string(got) != x.b {
			t.Errorf("Indices of %d: % x, want % x", len(x.list), trial.Short(got), trial.Short(x.b))
		}
		indices.Takes(t, x.b+"\x05", x.list, len(x.b))
		indices.Refuses(t, x.b[:len(x.b)-1], 2, x.last)
	}
	// How many there may be is asked by those who write them.
	if got := wire.Indices(most); len(got) != 10003 || string(got[:3]) != "\x91\x4e\x00" {
		t.Errorf("Indices of 10001: % x", trial.Short(got))
	}
}

func TestBrokenIndices(t *testing.T) {
	indices.Refuses(t, "\x91\x4e", 29, 0)
	indices.Refuses(t, "\x91\x4e"+strings.Repeat("\x00", 10001), 29, 0)
	indices.Refuses(t, "\xff\xff\xff\xff\x0f", 29, 0)
	for _, x := range trial.BrokenNumbers("", "\x01", "\x02\x05", "\x90\x4e\x80\x01") {
		indices.Refuses(t, x.B+"\x00", x.Why, x.At)
	}
	for n := range 6 {
		trial.Words([]byte{0, 1, 2, 0x7f, 0x80, 0xff}, n, func(w []byte) { indices.Agrees(t, string(w)) })
	}
}

// TestIndicesAreNew spoils what was written, and what was read, with the room behind it.
func TestIndicesAreNew(t *testing.T) {
	list := []uint32{1, 2, 3}
	first, second := wire.Indices(list[:2]), wire.Indices(list[:2])
	trial.Spoil(first, 0xee)
	trial.Spoil(wire.Indices(nil), 0xee)
	if string(second) != "\x02\x01\x02" || string(wire.Indices(nil)) != "\x00" || !slices.Equal(list, []uint32{1, 2, 3}) {
		t.Errorf("% x, %d", second, list)
	}
	s := scan.Over([]byte("\x02\x01\x02\x03\x04\x05\x06"))
	one, two := wire.GetIndices(s), wire.GetIndices(s)
	trial.Spoil(one, 99)
	if !slices.Equal(two, []uint32{4, 5, 6}) {
		t.Errorf("%d", two)
	}
}

// layer has names for elements.
var layer = trial.Layer[string]{
	Right:  utf.Check,
	Put:    put,
	Get:    (*scan.Scanner).Name,
	GetAll: func(s *scan.Scanner) []string { return wire.GetAll(s, (*scan.Scanner).Name) },
	PutAll: func(list []string) ([]byte, api.Errno) { return wire.PutAll(list, put) },

	ModelRight: trial.NameError,
	ModelPut:   trial.Sized,
	ModelGet:   (*trial.Model).Name,

	Samples: func() []trial.Sample[string] {
		long := strings.Repeat("n", 200)
		return []trial.Sample[string]{{E: "a", B: "\x01a"}, {E: "", B: "\x00"}, {E: long, B: "\xc8\x01" + long}}
	},
	Wrong: func() []trial.Bad[string] {
		return []trial.Bad[string]{{E: "\xff", Why: 4}, {E: strings.Repeat("n", 201), Why: 13}}
	},
	Broken: trial.BrokenNames(""),
	Any:    func(next func(n int) int) string { return strings.Repeat("n", next(201)) },
	Other:  "other",
	Same:   func(a, b string) bool { return a == b },
	Tell:   func(s string) any { return trial.Short(s) },
}

func put(name string) ([]byte, api.Errno) {
	if e := utf.Check(name); e != api.OK {
		return nil, e
	}
	return wire.Name(name), api.OK
}

func TestGetAll(t *testing.T) {
	layer.TestGetAll(t)
	layer.TestGetAllOfAnotherNumber(t)
	layer.TestBroken(t)
	layer.TestBytes(t, "\x02ab")
}

func TestPutAll(t *testing.T) {
	layer.TestPutAll(t)
	layer.TestPutAllOfWrongOnes(t)
}

func TestMost(t *testing.T) {
	list := make([]string, 10001)
	for at := range list {
		list[at] = trial.Uint(at % 128)
	}
	layer.TestMost(t, list)
	layer.TestInverse(t)
}

func TestMemory(t *testing.T) {
	layer.TestArguments(t)
	layer.TestKept(t)
	layer.TestNew(t)
	layer.TestCalls(t)
}

// TestErrorsOfAnElement: whatever stops one, stops the list, and nothing behind it is read.
func TestErrorsOfAnElement(t *testing.T) {
	read := 0
	list, stop := abort.Value(func() []int {
		return wire.GetAll(scan.Over([]byte("\x05")), func(s *scan.Scanner) int {
			read++
			abort.Unless(read < 3, api.ErrOp, 77)
			return read
		})
	})
	if len(list) != 0 || stop != (abort.Stop{Why: api.ErrOp, At: 77}) || read != 3 {
		t.Errorf("GetAll: %d, %v, %d read", list, stop, read)
	}
	written := 0
	b, e := wire.PutAll([]int{1, 2, 3, 4}, func(x int) ([]byte, api.Errno) {
		written++
		if x == 3 {
			return []byte("more"), api.ErrStack
		}
		return []byte("one"), api.OK
	})
	if len(b) != 0 || e != api.ErrStack || written != 3 {
		t.Errorf("PutAll: %q, %d, %d written", b, e, written)
	}
}
