package imports_test

import (
	"bytes"
	"math"
	"slices"
	"strings"
	"testing"
	"unicode/utf8"

	"creel/abort"
	"creel/api"
	"creel/imports"
	"creel/scan"
	"creel/trial"
)

// The model is written from the chapters with numbers of its own, and asks no layer.

func modelName(s string) api.Errno {
	switch {
	case len(s) > 200:
		return 13
	case !utf8.ValidString(s):
		return 4
	}
	return 0
}

// modelRight is P10.1's first sentence.
func modelRight(x api.Import) api.Errno {
	if e := modelName(x.Module); e != 0 {
		return e
	}
	if e := modelName(x.Name); e != 0 {
		return e
	}
	if x.Kind > 3 {
		return 43
	}
	limits := x.Limits.Min != 0 || x.Limits.Max != 0 || x.Limits.Bound
	global := x.Global.T != 0 || x.Global.Mut
	switch {
	case x.Kind != 0 && x.Type != 0,
		(x.Kind == 0 || x.Kind == 3) && limits,
		x.Kind != 3 && global,
		x.Limits.Max != 0 && !x.Limits.Bound:
		return 1
	case x.Kind == 3:
		return trial.TypeError(x.Global.T)
	}
	return 0
}

func modelLimits(l api.Limits) string {
	if l.Bound {
		return "\x01" + trial.Uint(l.Min) + trial.Uint(l.Max)
	}
	return "\x00" + trial.Uint(l.Min)
}

// modelPut is P10.1's last sentence, of an import that may be.
func modelPut(x api.Import) string {
	s := trial.Uint(len(x.Module)) + x.Module + trial.Uint(len(x.Name)) + x.Name
	switch x.Kind {
	case 0:
		return s + "\x00" + trial.Uint(x.Type)
	case 1:
		return s + "\x01\x70" + modelLimits(x.Limits)
	case 2:
		return s + "\x02" + modelLimits(x.Limits)
	}
	if x.Global.Mut {
		return s + "\x03" + string([]byte{x.Global.T}) + "\x01"
	}
	return s + "\x03" + string([]byte{x.Global.T}) + "\x00"
}

// modelGet is P10.2's first sentence.
func modelGet(m *trial.Model) api.Import {
	x := api.Import{Module: m.Name(), Name: m.Name(), Kind: m.Byte(trial.UpTo(3, 43))}
	switch x.Kind {
	case 0:
		x.Type = m.Index()
	case 1:
		m.Byte(trial.Only(0x70, 7))
		x.Limits = m.Limits()
	case 2:
		x.Limits = m.Limits()
	case 3:
		x.Global = m.Global()
	}
	return x
}

// modelGetAll is P10.2's second sentence.
func modelGetAll(m *trial.Model) []api.Import { return trial.List(m, modelGet) }

// modelPutAll is P10.2's last sentence.
func modelPutAll(list []api.Import) (string, api.Errno) {
	if len(list) > 10000 {
		return "", 29
	}
	var s strings.Builder
	s.WriteString(trial.Uint(len(list)))
	for _, x := range list {
		if e := modelRight(x); e != 0 {
			return "", e
		}
		s.WriteString(modelPut(x))
	}
	return s.String(), 0
}

// modelOf is P10.3's first sentence.
func modelOf(list []api.Import, kind byte) []api.Import {
	return slices.DeleteFunc(slices.Clone(list), func(x api.Import) bool { return x.Kind != kind })
}

// modelPlace is P10.3's last sentence: the index, or -1.
func modelPlace(list []api.Import, kind byte, module, name string) int {
	return slices.IndexFunc(modelOf(list, kind), func(x api.Import) bool {
		return [2]string{x.Module, x.Name} == [2]string{module, name}
	})
}

// Checks.

// told is an import with no more of its names than is worth telling.
func told(x api.Import) api.Import {
	x.Module, x.Name = trial.Short(x.Module), trial.Short(x.Name)
	return x
}

// checkRight checks the error of an import, and that Put has it, too, and bytes only if there is none.
func checkRight(t *testing.T, x api.Import, want api.Errno) {
	t.Helper()
	if got := imports.Right(x); got != want {
		t.Errorf("Right(%+v): %d, want %d", told(x), got, want)
	}
	b, e := imports.Put(x)
	if e != want {
		t.Errorf("Put(%+v): %d, want %d", told(x), e, want)
	}
	if want != 0 && len(b) != 0 {
		t.Errorf("Put(%+v): % x beside an error", told(x), trial.Short(b))
	}
}

func checkPut(t *testing.T, x api.Import, want string) {
	t.Helper()
	checkRight(t, x, 0)
	if b, _ := imports.Put(x); string(b) != want {
		t.Errorf("Put(%+v): % x, want % x", told(x), trial.Short(b), trial.Short(want))
	}
}

// checkPutModel checks that an import is encoded, or not, as the model says.
func checkPutModel(t *testing.T, x api.Import) {
	t.Helper()
	if e := modelRight(x); e != 0 {
		checkRight(t, x, e)
	} else {
		checkPut(t, x, modelPut(x))
	}
}

// get and getAll are what reads.
var (
	get = trial.Reader[api.Import]{
		Name:  "Get",
		Read:  imports.Get,
		Model: modelGet,
		Same:  func(a, b api.Import) bool { return a == b },
		Tell:  func(x api.Import) any { return told(x) },
	}
	getAll = trial.Reader[[]api.Import]{
		Name:  "GetAll",
		Read:  imports.GetAll,
		Model: modelGetAll,
		Same:  slices.Equal[[]api.Import],
		Tell:  func(list []api.Import) any { return len(list) },
	}
)

// checkGetAll checks that bytes are a list.
func checkGetAll(t *testing.T, b string, want []api.Import) {
	t.Helper()
	getAll.Takes(t, b, want, len(b))
}

// try reads an import, and returns the error with which that aborts.
func try(s *scan.Scanner) (api.Import, abort.Stop) {
	return abort.Value(func() api.Import { return imports.Get(s) })
}

// tryAll reads a list, likewise.
func tryAll(s *scan.Scanner) ([]api.Import, abort.Stop) {
	return abort.Value(func() []api.Import { return imports.GetAll(s) })
}

// checkPutAll checks the bytes of a list, or its error and that there are none.
func checkPutAll(t *testing.T, list []api.Import, want string, e api.Errno) {
	t.Helper()
	b, got := imports.PutAll(list)
	if got != e || string(b) != want {
		t.Errorf("PutAll of %d imports: % x (%d bytes), %d, want % x (%d bytes), %d", len(list), trial.Short(b), len(b), got, trial.Short(want), len(want), e)
	}
}

func checkPutAllModel(t *testing.T, list []api.Import) {
	t.Helper()
	want, e := modelPutAll(list)
	checkPutAll(t, list, want, e)
}

// checkOf checks the imports of a kind, and their number.
func checkOf(t *testing.T, list []api.Import, kind byte, want []api.Import) {
	t.Helper()
	if got := imports.Of(list, kind); !slices.Equal(got, want) {
		t.Errorf("Of %d in %d imports: %+v, want %+v", kind, len(list), got, want)
	}
	if got := imports.Count(list, kind); got != len(want) {
		t.Errorf("Count of %d in %d imports: %d, want %d", kind, len(list), got, len(want))
	}
}

// checkPlace checks that the import at an index, or none for -1, is found.
func checkPlace(t *testing.T, list []api.Import, kind byte, module, name string, want int) {
	t.Helper()
	got, ok := imports.Place(list, kind, module, name)
	if got != max(want, 0) || ok != (want >= 0) {
		t.Errorf("Place(%d, %q, %q) in %d imports: %d, %v, want %d", kind, module, name, len(list), got, ok, want)
	}
}

const most = math.MaxUint32

// plain is an import of each kind with as little in it as may be.
func plain(kind byte) api.Import {
	x := api.Import{Kind: kind}
	if kind == 3 {
		x.Global.T = 0x7f
	}
	return x
}

// sample is an import, and the bytes that it has.
type sample struct {
	x api.Import
	b string
}

func samples() []sample {
	long := strings.Repeat("n", 200)
	limits := func(min, max uint32) api.Limits { return api.Limits{Min: min, Max: max, Bound: true} }
	return []sample{
		{api.Import{Module: "env", Name: "f", Type: 5}, "\x03env\x01f\x00\x05"},
		{api.Import{}, "\x00\x00\x00\x00"},
		{api.Import{Module: "a"}, "\x01a\x00\x00\x00"},
		{api.Import{Name: "a"}, "\x00\x01a\x00\x00"},
		{api.Import{Module: "\u20ac", Name: "\x00\"\x7f\n", Type: 1}, "\x03\xe2\x82\xac\x04\x00\"\x7f\n\x00\x01"},
		{api.Import{Module: "ab", Name: "abc", Type: 127}, "\x02ab\x03abc\x00\x7f"},
		{api.Import{Type: 128}, "\x00\x00\x00\x80\x01"},
		{api.Import{Type: 1<<31 - 1}, "\x00\x00\x00\xff\xff\xff\xff\x07"},
		{api.Import{Type: 1 << 31}, "\x00\x00\x00\x80\x80\x80\x80\x08"},
		{api.Import{Type: most}, "\x00\x00\x00\xff\xff\xff\xff\x0f"},
		{api.Import{Module: long, Name: long[:128]}, "\xc8\x01" + long + "\x80\x01" + long[:128] + "\x00\x00"},
		{api.Import{Module: long[:127], Name: long}, "\x7f" + long[:127] + "\xc8\x01" + long + "\x00\x00"},
		{api.Import{Kind: 1}, "\x00\x00\x01\x70\x00\x00"},
		{api.Import{Module: "env", Name: "t", Kind: 1, Limits: api.Limits{Min: 3}}, "\x03env\x01t\x01\x70\x00\x03"},
		{api.Import{Module: "env", Name: "t", Kind: 1, Limits: limits(3, 300)}, "\x03env\x01t\x01\x70\x01\x03\xac\x02"},
		{api.Import{Kind: 1, Limits: api.Limits{Min: most}}, "\x00\x00\x01\x70\x00\xff\xff\xff\xff\x0f"},
		{api.Import{Kind: 1, Limits: limits(most, most)}, "\x00\x00\x01\x70\x01\xff\xff\xff\xff\x0f\xff\xff\xff\xff\x0f"},
		{api.Import{Module: "env", Name: "m", Kind: 2, Limits: api.Limits{Min: 2}}, "\x03env\x01m\x02\x00\x02"},
		{api.Import{Module: "env", Name: "m", Kind: 2, Limits: limits(1, 65536)}, "\x03env\x01m\x02\x01\x01\x80\x80\x04"},
		{api.Import{Kind: 2, Limits: limits(0, 0)}, "\x00\x00\x02\x01\x00\x00"},
		{api.Import{Kind: 2, Limits: limits(5, 4)}, "\x00\x00\x02\x01\x05\x04"}, // nobody asks whether they may be
		{api.Import{Kind: 2, Limits: limits(0, most)}, "\x00\x00\x02\x01\x00\xff\xff\xff\xff\x0f"},
		{api.Import{Kind: 2, Limits: limits(most, 0)}, "\x00\x00\x02\x01\xff\xff\xff\xff\x0f\x00"},
		{api.Import{Kind: 2, Limits: api.Limits{Min: most}}, "\x00\x00\x02\x00\xff\xff\xff\xff\x0f"},
		{api.Import{Module: "env", Name: "g", Kind: 3, Global: api.GlobalType{T: 0x7f}}, "\x03env\x01g\x03\x7f\x00"},
		{api.Import{Module: "env", Name: "g", Kind: 3, Global: api.GlobalType{T: 0x7e, Mut: true}}, "\x03env\x01g\x03\x7e\x01"},
		{api.Import{Kind: 3, Global: api.GlobalType{T: 0x7f, Mut: true}}, "\x00\x00\x03\x7f\x01"},
		{api.Import{Kind: 3, Global: api.GlobalType{T: 0x7e}}, "\x00\x00\x03\x7e\x00"},
	}
}

// wrong are imports that may not be, one for each way to be so.
func wrong() []struct {
	x api.Import
	e api.Errno
} {
	return []struct {
		x api.Import
		e api.Errno
	}{
		{api.Import{Module: strings.Repeat("n", 201)}, 13},
		{api.Import{Name: strings.Repeat("n", 201)}, 13},
		{api.Import{Module: "\xff"}, 4},
		{api.Import{Name: "\xff"}, 4},
		{api.Import{Kind: 4}, 43},
		{api.Import{Kind: 255}, 43},
		{api.Import{Kind: 1, Type: 1}, 1},
		{api.Import{Limits: api.Limits{Min: 1}}, 1},
		{api.Import{Kind: 2, Limits: api.Limits{Max: 1}}, 1},
		{api.Import{Kind: 2, Global: api.GlobalType{Mut: true}}, 1},
		{api.Import{Kind: 3}, 7},
		{api.Import{Kind: 3, Global: api.GlobalType{T: 0x7d}}, 8},
	}
}

// P10.1

func TestEveryKind(t *testing.T) {
	for kind := range 256 {
		want := api.Errno(0)
		if kind > 3 {
			want = 43
		}
		checkRight(t, plain(byte(kind)), want)
		x := plain(byte(kind))
		x.Module, x.Name = "env", "f"
		checkRight(t, x, want)
	}
}

func TestNames(t *testing.T) {
	long := strings.Repeat("n", 201)
	for _, x := range []struct {
		s string
		e api.Errno
	}{
		{"", 0},
		{"a", 0},
		{"\x00", 0},
		{"\u20ac\U0010ffff", 0},
		{long[:127], 0},
		{long[:128], 0},
		{long[:199], 0},
		{long[:200], 0},
		{strings.Repeat("\u20ac", 66) + "ab", 0},
		{long, 13},
		{strings.Repeat("\u20ac", 67), 13}, // bytes count, not signs
		{long + long, 13},
		{long[:200] + "\xff", 13},
		{"\xff" + long, 13},
		{"\xff", 4},
		{"\x80", 4},
		{"a\xe2\x82", 4},
		{"\xed\xa0\x80", 4},
		{"\xff" + long[:199], 4},
		{long[:199] + "\xff", 4},
	} {
		for kind := range byte(4) {
			y := plain(kind)
			y.Module = x.s
			checkRight(t, y, x.e)
			y.Name = "f"
			checkRight(t, y, x.e)
			y.Module, y.Name = "", x.s
			checkRight(t, y, x.e)
			y.Module = "env"
			checkRight(t, y, x.e)
			y.Module = x.s
			checkRight(t, y, x.e)
		}
	}
}

// TestWhichErrorCounts has two errors in each import.
func TestWhichErrorCounts(t *testing.T) {
	long, odd := strings.Repeat("n", 201), "\xff"
	one := api.Limits{Min: 1}
	for _, x := range []struct {
		x api.Import
		e api.Errno
	}{
		// Both names.
		{api.Import{Module: long, Name: odd}, 13},
		{api.Import{Module: odd, Name: long}, 4},
		{api.Import{Module: long, Name: long}, 13},
		{api.Import{Module: odd, Name: odd}, 4},
		// A name and the kind.
		{api.Import{Module: long, Kind: 4}, 13},
		{api.Import{Module: odd, Kind: 255}, 4},
		{api.Import{Name: long, Kind: 255}, 13},
		{api.Import{Name: odd, Kind: 4}, 4},
		// A name and a field.
		{api.Import{Module: long, Limits: one}, 13},
		{api.Import{Name: odd, Kind: 1, Type: 1}, 4},
		{api.Import{Name: long, Kind: 2, Limits: api.Limits{Max: 1}}, 13},
		// A name and a global's type.
		{api.Import{Module: odd, Kind: 3}, 4},
		{api.Import{Name: long, Kind: 3, Global: api.GlobalType{T: 0x7d}}, 13},
		// The kind and a field: none belongs to a kind that there is not.
		{api.Import{Kind: 4, Type: 1}, 43},
		{api.Import{Kind: 4, Limits: one}, 43},
		{api.Import{Kind: 255, Limits: api.Limits{Max: 1}}, 43},
		{api.Import{Kind: 4, Global: api.GlobalType{T: 0x7d}}, 43},
		{api.Import{Kind: 128, Type: 1, Limits: one, Global: api.GlobalType{T: 1, Mut: true}}, 43},
		// A field and a global's type.
		{api.Import{Kind: 3, Type: 1}, 1},
		{api.Import{Kind: 3, Type: 1, Global: api.GlobalType{T: 0x7d}}, 1},
		{api.Import{Kind: 3, Limits: one, Global: api.GlobalType{T: 0x7c}}, 1},
		{api.Import{Kind: 3, Limits: api.Limits{Max: 1}}, 1},
		{api.Import{Kind: 3, Limits: api.Limits{Bound: true}, Global: api.GlobalType{T: 0x70}}, 1},
	} {
		checkRight(t, x.x, x.e)
	}
}

// TestFieldsOfOtherKinds has every one alone, with the smallest and the largest value.
func TestFieldsOfOtherKinds(t *testing.T) {
	fields := []struct {
		kinds string // those that it belongs to
		set   func(x *api.Import)
	}{
		{"\x00", func(x *api.Import) { x.Type = 1 }},
		{"\x00", func(x *api.Import) { x.Type = most }},
		{"\x01\x02", func(x *api.Import) { x.Limits.Min = 1 }},
		{"\x01\x02", func(x *api.Import) { x.Limits.Min = most }},
		{"\x01\x02", func(x *api.Import) { x.Limits.Bound = true }},
		{"\x01\x02", func(x *api.Import) { x.Limits.Bound, x.Limits.Max = true, 1 }},
		{"", func(x *api.Import) { x.Limits.Max = 1 }},
		{"", func(x *api.Import) { x.Limits.Max = most }},
		{"\x03", func(x *api.Import) { x.Global.T = 0x7e }},
		{"\x03", func(x *api.Import) { x.Global.Mut = true }},
	}
	for _, f := range fields {
		for kind := range byte(4) {
			x := plain(kind)
			f.set(&x)
			want := api.Errno(1)
			if strings.IndexByte(f.kinds, kind) >= 0 {
				want = 0
			}
			checkRight(t, x, want)
			x.Module, x.Name = "env", "f"
			checkRight(t, x, want)
		}
	}
	// Types that are none, too: they are not what is wrong with them.
	for b := 1; b < 256; b++ {
		for kind := range byte(3) {
			checkRight(t, api.Import{Kind: kind, Global: api.GlobalType{T: byte(b)}}, 1)
		}
	}
}

func TestLimits(t *testing.T) {
	for kind := byte(1); kind < 3; kind++ {
		for _, a := range []uint32{0, 1, 2, 127, 128, 65536, 65537, 1<<31 - 1, 1 << 31, most - 1, most} {
			checkRight(t, api.Import{Kind: kind, Limits: api.Limits{Min: a}}, 0)
			for _, b := range []uint32{0, 1, 2, 127, 128, 65536, 65537, 1<<31 - 1, 1 << 31, most - 1, most} {
				checkRight(t, api.Import{Kind: kind, Limits: api.Limits{Min: a, Max: b, Bound: true}}, 0)
				if b > 0 {
					checkRight(t, api.Import{Kind: kind, Limits: api.Limits{Min: a, Max: b}}, 1)
				}
			}
		}
	}
}

func TestEveryTypeOfAGlobal(t *testing.T) {
	for b := range 256 {
		want := api.Errno(7)
		switch b {
		case 0x7f, 0x7e:
			want = 0
		case 0x7d, 0x7c:
			want = 8
		}
		for _, mut := range []bool{false, true} {
			checkRight(t, api.Import{Kind: 3, Global: api.GlobalType{T: byte(b), Mut: mut}}, want)
			checkRight(t, api.Import{Module: "env", Name: "g", Kind: 3, Global: api.GlobalType{T: byte(b), Mut: mut}}, want)
		}
	}
}

func TestPut(t *testing.T) {
	for _, x := range samples() {
		checkPut(t, x.x, x.b)
	}
}

func TestPutOfWrongOnes(t *testing.T) {
	for _, x := range wrong() {
		checkRight(t, x.x, x.e)
	}
}

// TestExample is the chapter's.
func TestExample(t *testing.T) {
	x := api.Import{Module: "env", Name: "f", Kind: api.KindFunc, Type: 5}
	checkPut(t, x, "\x03env\x01\x66\x00\x05")
	get.Takes(t, "\x03env\x01\x66\x00\x05", x, 8)
}

// TestAllFields has all values at the edges of all fields with each other.
func TestAllFields(t *testing.T) {
	names := []string{"", "a", strings.Repeat("n", 200), strings.Repeat("n", 201), "\xff"}
	numbers := []uint32{0, 1, most}
	var fields []api.Import
	for _, typ := range numbers {
		for _, min := range numbers {
			for _, max := range numbers {
				for _, b := range []byte{0, 1, 0x70, 0x7c, 0x7d, 0x7e, 0x7f, 0x80} {
					for bits := range 4 {
						fields = append(fields, api.Import{Type: typ, Limits: api.Limits{Min: min, Max: max, Bound: bits&1 > 0}, Global: api.GlobalType{T: b, Mut: bits&2 > 0}})
					}
				}
			}
		}
	}
	for _, module := range names {
		for _, name := range names {
			for _, kind := range []byte{0, 1, 2, 3, 4, 255} {
				for _, x := range fields {
					x.Module, x.Name, x.Kind = module, name, kind
					checkPutModel(t, x)
				}
			}
		}
	}
}

// P10.2

func TestGet(t *testing.T) {
	for _, x := range samples() {
		get.Takes(t, x.b, x.x, len(x.b))
	}
}

// TestGetStopsBehindTheImport: whatever is behind it is left, also what would go on with a varint.
func TestGetStopsBehindTheImport(t *testing.T) {
	for _, x := range samples() {
		for more := range 256 {
			get.Takes(t, x.b+string([]byte{byte(more)}), x.x, len(x.b))
		}
		get.Takes(t, x.b+x.b, x.x, len(x.b))
	}
}

// TestGetInTurn has imports behind each other, read by one scanner.
func TestGetInTurn(t *testing.T) {
	var all string
	for _, x := range samples() {
		all += x.b
	}
	s, at := scan.Over([]byte(all)), 0
	for _, x := range samples() {
		at += len(x.b)
		if got, stop := try(s); got != x.x || stop != (abort.Stop{}) || s.At() != at {
			t.Errorf("Get: %+v, %v, then At %d, want %+v, then %d", told(got), stop, s.At(), told(x.x), at)
		}
	}
	if got, stop := try(s); got != (api.Import{}) || stop != (abort.Stop{Why: 2, At: len(all)}) {
		t.Errorf("Get behind the last one: %+v, %v", told(got), stop)
	}
}

// TestCutOff cuts imports off at every place: the error is at the part that is not whole.
func TestCutOff(t *testing.T) {
	for _, x := range []struct {
		b     string
		parts []int // where a part of it begins
	}{
		{"\x03env\x01f\x00\x05", []int{0, 1, 4, 5, 6, 7}},
		{"\x00\x00\x00\x85\x80\x00", []int{0, 1, 2, 3}},
		{"\x83\x00env\x81\x80\x00f\x00\x05", []int{0, 2, 5, 8, 9, 10}},
		{"\x00\x03\xe2\x82\xac\x01\x70\x00\x83\x00", []int{0, 1, 2, 5, 6, 7, 8}},
		{"\x01a\x01b\x01\x70\x01\x83\x00\x84\x80\x00", []int{0, 1, 2, 3, 4, 5, 6, 7, 9}},
		{"\x01a\x01b\x02\x00\xff\xff\xff\xff\x0f", []int{0, 1, 2, 3, 4, 5, 6}},
		{"\x02ab\x00\x02\x01\xff\xff\xff\xff\x0f\x80\x80\x80\x80\x08", []int{0, 1, 3, 4, 5, 6, 11}},
		{"\x02ab\x00\x03\x7f\x00", []int{0, 1, 3, 4, 5, 6}},
		{"\x00\x02ab\x03\x7e\x01", []int{0, 1, 2, 4, 5, 6}},
	} {
		for n := range len(x.b) {
			at := 0
			for _, from := range x.parts {
				if from <= n {
					at = from
				}
			}
			get.Refuses(t, x.b[:n], 2, at)
		}
		get.Takes(t, x.b, modelGet(trial.NewModel(x.b)), len(x.b))
	}
	for _, x := range samples() {
		for n := range len(x.b) {
			get.Agrees(t, x.b[:n])
		}
	}
}

// TestEveryByteAsTheKind has what is right for each kind behind it, nothing, or what is right for none.
func TestEveryByteAsTheKind(t *testing.T) {
	for kind := 4; kind < 256; kind++ {
		for _, more := range []string{"", "\x00", "\x05", "\x70\x00\x03", "\x00\x03", "\x01\x03\x04", "\x7f\x00", "\xff\xff\xff\xff\xff"} {
			get.Refuses(t, "\x00\x00"+string([]byte{byte(kind)})+more, 43, 2)
			get.Refuses(t, "\x03env\x01f"+string([]byte{byte(kind)})+more, 43, 6)
		}
	}
	env := func(x api.Import) api.Import {
		x.Module, x.Name = "env", "f"
		return x
	}
	get.Takes(t, "\x03env\x01f\x00\x70\x00\x03", env(api.Import{Type: 0x70}), 8)
	get.Takes(t, "\x03env\x01f\x01\x70\x00\x03", env(api.Import{Kind: 1, Limits: api.Limits{Min: 3}}), 10)
	get.Takes(t, "\x03env\x01f\x02\x00\x03\x04", env(api.Import{Kind: 2, Limits: api.Limits{Min: 3}}), 9)
	get.Takes(t, "\x03env\x01f\x03\x7f\x00\x03", env(api.Import{Kind: 3, Global: api.GlobalType{T: 0x7f}}), 9)
}

func TestEveryByteAsTheBeginningOfATable(t *testing.T) {
	for b := range 256 {
		for _, more := range []string{"", "\x00", "\x00\x03", "\x01\x03\x04", "\x02"} {
			s := "\x01t\x00\x01" + string([]byte{byte(b)}) + more
			if b != 0x70 {
				get.Refuses(t, s, 7, 4)
			}
			get.Agrees(t, s)
		}
	}
	get.Takes(t, "\x01t\x00\x01\x70\x01\x03\x04", api.Import{Module: "t", Kind: 1, Limits: api.Limits{Min: 3, Max: 4, Bound: true}}, 8)
}

func TestEveryByteAsTheFlagOfLimits(t *testing.T) {
	for b := 2; b < 256; b++ {
		for _, more := range []string{"", "\x03", "\x03\x04", "\xff\xff\xff\xff\xff"} {
			get.Refuses(t, "\x01m\x00\x02"+string([]byte{byte(b)})+more, 10, 4)
			get.Refuses(t, "\x01t\x00\x01\x70"+string([]byte{byte(b)})+more, 10, 5)
		}
	}
	get.Takes(t, "\x01m\x00\x02\x00\x03\x04", api.Import{Module: "m", Kind: 2, Limits: api.Limits{Min: 3}}, 6)
	get.Takes(t, "\x01m\x00\x02\x01\x03\x04", api.Import{Module: "m", Kind: 2, Limits: api.Limits{Min: 3, Max: 4, Bound: true}}, 7)
}

// TestEveryByteAsAGlobal has it as the type, and as what tells whether it may change: the type counts first.
func TestEveryByteAsAGlobal(t *testing.T) {
	for b := range 256 {
		x := string([]byte{byte(b)})
		for _, more := range []string{"", "\x00", "\x01", "\x02", "\xff"} {
			if e := trial.TypeError(byte(b)); e != 0 {
				get.Refuses(t, "\x01g\x00\x03"+x+more, e, 4)
			}
			get.Agrees(t, "\x01g\x00\x03"+x+more)
		}
		for _, typ := range []string{"\x7f", "\x7e"} {
			if b > 1 {
				get.Refuses(t, "\x01g\x00\x03"+typ+x, 10, 5)
				continue
			}
			get.Takes(t, "\x01g\x00\x03"+typ+x, api.Import{Module: "g", Kind: 3, Global: api.GlobalType{T: typ[0], Mut: b == 1}}, 6)
		}
	}
}

// TestNamesTooLong has lengths above the limit, whether or not the bytes are there.
func TestNamesTooLong(t *testing.T) {
	full := strings.Repeat("n", 201)
	for _, lead := range []string{"", "\x00", "\x03env", "\xc8\x01" + full[:200]} {
		// Behind a lead it is the Name, otherwise the Module.
		at := len(lead)
		get.Refuses(t, lead+"\xc9\x01"+full+"\x00\x00\x00", 13, at)
		get.Refuses(t, lead+"\xc9\x01"+full[:200]+"\xff\x00\x00\x00", 13, at)
		get.Refuses(t, lead+"\xc9\x01", 13, at)
		get.Refuses(t, lead+"\xc9\x81\x80\x80\x00", 13, at)
		get.Refuses(t, lead+"\xff\x7f", 13, at)
		get.Refuses(t, lead+"\xff\xff\xff\xff\x07", 13, at)
		get.Refuses(t, lead+"\x80\x80\x80\x80\x08", 13, at)
		get.Refuses(t, lead+"\xff\xff\xff\xff\x0f", 13, at)
		get.Refuses(t, lead+"\x80\x80\x80\x80\x10", 3, at)
		get.Refuses(t, lead+"\x80\x80\x80\x80\x80\x00", 3, at)
		get.Refuses(t, lead+"\xc8\x01"+full[:199], 2, at+2)
	}
}

func TestNamesNotUTF8(t *testing.T) {
	for _, name := range []string{"\x80", "\xff", "\xc0\x80", "\xe2\x82", "\xed\xa0\x80", "\xf4\x90\x80\x80", "a\xff", "abc\xe2\x82", "\u20ac\xff"} {
		for _, more := range []string{"", "\x00", "\x00\x00\x00", "\x04", "\x01\xff\x00\x00", "\xac\x80\x80"} {
			s := trial.Uint(len(name)) + name + more
			get.Refuses(t, s, 4, 1)
			get.Refuses(t, "\x00"+s, 4, 2)
			get.Refuses(t, "\x03env"+s, 4, 5)
		}
	}
	get.Refuses(t, "\x81\x00\xff\x00\x00\x00", 4, 2)
	get.Refuses(t, "\x00\x81\x80\x00\xff\x00\x00", 4, 4)
	get.Refuses(t, "\xc8\x01"+strings.Repeat("n", 199)+"\xff\x00\x00\x00", 4, 2)
	// The bytes of a sign that is cut off are not those of the next name.
	get.Refuses(t, "\x02\xe2\x82\x01\xac\x00\x00", 4, 1)
}

// TestWrongNumbers has them in every place of a number.
func TestWrongNumbers(t *testing.T) {
	for _, s := range []string{
		"\x80\x80\x80\x80\x10",     // 2^32
		"\xff\xff\xff\xff\x7f",     // 2^35 - 1
		"\x80\x80\x80\x80\x80\x00", // 0, in 6 bytes
		"\xff\xff\xff\xff\xff",
	} {
		for _, lead := range []string{"", "\x00", "\x01a", "\x00\x00\x00", "\x01a\x01b\x00", "\x00\x00\x01\x70\x00", "\x00\x00\x01\x70\x01", "\x00\x00\x01\x70\x01\x03", "\x00\x00\x02\x00", "\x00\x00\x02\x01", "\x00\x00\x02\x01\x83\x00"} {
			get.Refuses(t, lead+s, 3, len(lead))
			get.Refuses(t, lead+s+"\x00\x00\x00", 3, len(lead))
		}
	}
}

// TestLongerNumbers has numbers with more bytes than they need.
func TestLongerNumbers(t *testing.T) {
	get.Takes(t, "\x83\x80\x80\x80\x00env\x81\x00f\x00\x85\x80\x80\x80\x00", api.Import{Module: "env", Name: "f", Type: 5}, 17)
	get.Takes(t, "\x80\x00\x80\x80\x00\x01\x70\x01\x83\x00\x84\x80\x80\x00", api.Import{Kind: 1, Limits: api.Limits{Min: 3, Max: 4, Bound: true}}, 14)
}

// TestEveryByteChanged changes the bytes of imports, one at a time, to every value.
func TestEveryByteChanged(t *testing.T) {
	for _, good := range []string{
		"\x03env\x01f\x00\x05\x00",
		"\x00\x02\xc3\xa9\x00\xff\xff\xff\xff\x0f",
		"\x01a\x01b\x01\x70\x00\x03\x04",
		"\x01a\x01b\x01\x70\x01\x83\x00\x04",
		"\x01a\x01b\x02\x00\x03\x04",
		"\x01a\x01b\x02\x01\x03\x84\x00",
		"\x01a\x01b\x03\x7f\x00\x00",
		"\x01a\x01b\x03\x7e\x01",
	} {
		for at := range len(good) {
			for x := range 256 {
				b := []byte(good)
				b[at] = byte(x)
				get.Agrees(t, string(b))
				getAll.Agrees(t, "\x01"+string(b))
				getAll.Agrees(t, "\x02"+string(b)+good)
			}
		}
	}
}

// TestAllShortImports tries the strings of the bytes that mean something, alone and behind two names.
func TestAllShortImports(t *testing.T) {
	alphabet := "\x00\x01\x02\x03\x04\x70\x7d\x7f\x80\xff"
	for n := range 5 {
		trial.Words([]byte(alphabet), n, func(w []byte) {
			s := string(w)
			get.Agrees(t, s)
			get.Agrees(t, "\x00\x01a"+s)
			getAll.Agrees(t, s)
			getAll.Agrees(t, "\x01\x00\x01a"+s)
		})
	}
}

func TestGetAllOfNone(t *testing.T) {
	checkGetAll(t, "\x00", nil)
	checkGetAll(t, "\x80\x80\x80\x80\x00", nil)
	getAll.Refuses(t, "\x00\x00", 14, 1)
	getAll.Refuses(t, "\x80\x00\x00\x00\x00\x00", 14, 2)
	getAll.Refuses(t, "", 2, 0)
	getAll.Refuses(t, "\x80", 2, 0)
}

func TestGetAllOfOne(t *testing.T) {
	for _, x := range samples() {
		checkGetAll(t, "\x01"+x.b, []api.Import{x.x})
		checkGetAll(t, "\x81\x80\x00"+x.b, []api.Import{x.x})
	}
}

func TestGetAllOfSeveral(t *testing.T) {
	var list []api.Import
	var all string
	for n, x := range samples() {
		list = append(list, x.x)
		all += x.b
		checkGetAll(t, string([]byte{byte(n + 1)})+all, list)
	}
	all = strings.Repeat(all, 6)
	list = slices.Repeat(list, 6)
	checkGetAll(t, trial.Uint(len(list))+all, list)
}

// TestGetAllOfAnotherNumber has one that is larger or smaller than that of the imports that follow.
func TestGetAllOfAnotherNumber(t *testing.T) {
	three := "\x01a\x01b\x00\x05" + "\x01m\x00\x02\x00\x03" + "\x00\x01g\x03\x7f\x01"
	for n, at := range []int{1, 7, 13} {
		getAll.Refuses(t, string([]byte{byte(n)})+three, 14, at)
	}
	getAll.Agrees(t, "\x03"+three)
	for _, n := range []string{"\x04", "\x05", "\x7f"} {
		getAll.Refuses(t, n+three, 2, 19)
	}
	getAll.Refuses(t, "\x90\x4e"+three, 2, 20) // 10000
	getAll.Refuses(t, "\x91\x4e"+three, 29, 0)
}

// TestGetAllWithBytesBehind has a byte of every value, and several, behind the last import.
func TestGetAllWithBytesBehind(t *testing.T) {
	for _, x := range samples() {
		for more := range 256 {
			getAll.Refuses(t, "\x01"+x.b+string([]byte{byte(more)}), 14, 1+len(x.b))
		}
		getAll.Refuses(t, "\x01"+x.b+x.b, 14, 1+len(x.b))
		getAll.Refuses(t, "\x02"+x.b+x.b+"\x00\x00\x00", 14, 1+2*len(x.b))
	}
}

// TestGetAllCutOff cuts a list off at every place.
func TestGetAllCutOff(t *testing.T) {
	s := "\x85\x00" + "\x03env\x01f\x00\x05" + "\x01t\x00\x01\x70\x01\x83\x00\x04" + "\x00\x00\x02\x00\x03" + "\x01g\x02ab\x03\x7e\x01" + "\x00\x00\x00\xff\x01"
	for n := range len(s) {
		getAll.Agrees(t, s[:n])
		m := trial.NewModel(s[:n])
		if modelGetAll(m); m.Stop.Why != 2 {
			t.Errorf("%d bytes: %v", n, m.Stop)
		}
	}
	getAll.Agrees(t, s)
}

// TestGetAllOfAWrongOne has an error in each of three imports, and two of them in one list.
func TestGetAllOfAWrongOne(t *testing.T) {
	good, bad := "\x01a\x01b\x00\x05", "\x01a\x01b\x04\x05"
	getAll.Refuses(t, "\x03"+bad+good+good, 43, 5)
	getAll.Refuses(t, "\x03"+good+bad+good, 43, 11)
	getAll.Refuses(t, "\x03"+good+good+bad, 43, 17)
	getAll.Refuses(t, "\x03"+good+good+bad+"\x00", 43, 17)
	getAll.Refuses(t, "\x02"+good+good+bad, 14, 13)
	getAll.Refuses(t, "\x03"+good+"\x01\xff"+bad, 4, 8)
	getAll.Refuses(t, "\x03"+bad+"\x01\xff", 43, 5)
	getAll.Refuses(t, "\x02"+good+"\x00\x00\x03\x7d\x02", 8, 10)
	getAll.Refuses(t, "\x02"+good+"\x00\x00\x03\x7f\x02", 10, 11)
	getAll.Refuses(t, "\x02"+good+"\x00\x00\x01\x71\x02", 7, 10)
	getAll.Refuses(t, "\x02"+good+"\xc9\x01", 13, 7)
	// The number counts ahead of all of them.
	getAll.Refuses(t, "\x91\x4e"+bad, 29, 0)
	getAll.Refuses(t, "\xff\xff\xff\xff\x0f"+bad, 29, 0)
	getAll.Refuses(t, "\xff\xff\xff\xff\x1f"+bad, 3, 0)
	getAll.Refuses(t, "\x80\x80\x80\x80\x80\x00"+bad, 3, 0)
}

// many are imports that differ from each other.
func many(n int) []api.Import {
	list := make([]api.Import, n)
	for at := range list {
		list[at] = api.Import{Module: "m", Name: trial.Uint(at % 128), Type: uint32(at)}
	}
	return list
}

// TestMostImports has 10000 of them and one more.
func TestMostImports(t *testing.T) {
	list := many(10001)
	var b strings.Builder
	for _, x := range list[:10000] {
		b.WriteString(modelPut(x))
	}
	all, last := b.String(), modelPut(list[10000])
	checkPutAll(t, list[:9999], "\x8f\x4e"+all[:len(all)-len(modelPut(list[9999]))], 0)
	checkPutAll(t, list[:10000], "\x90\x4e"+all, 0)
	checkPutAll(t, list, "", 29)
	checkGetAll(t, "\x90\x4e"+all, list[:10000])
	getAll.Refuses(t, "\x90\x4e"+all+last, 14, 2+len(all))
	getAll.Refuses(t, "\x91\x4e"+all+last, 29, 0)
	getAll.Refuses(t, "\x91\x4e"+all, 29, 0)
	getAll.Refuses(t, "\x90\x4e"+all[:len(all)-1], 2, 2+len(all)-2)
	// Their number counts ahead of what is wrong with them.
	list[0].Kind = 4
	checkPutAll(t, list[:10000], "", 43)
	checkPutAll(t, list, "", 29)
	list[0].Kind, list[10000].Kind = 0, 4
	checkPutAll(t, list[:10000], "\x90\x4e"+all, 0)
	checkPutAll(t, list[1:], "", 43)
	checkPutAll(t, list, "", 29)
	checkPutAll(t, slices.Repeat(list, 3), "", 29)
}

func TestPutAll(t *testing.T) {
	checkPutAll(t, nil, "\x00", 0)
	checkPutAll(t, []api.Import{}, "\x00", 0)
	var list []api.Import
	var all string
	for n, x := range samples() {
		checkPutAll(t, []api.Import{x.x}, "\x01"+x.b, 0)
		list = append(list, x.x)
		all += x.b
		checkPutAll(t, list, string([]byte{byte(n + 1)})+all, 0)
	}
	for _, n := range []int{4, 5, 127 * 10} {
		checkPutAllModel(t, slices.Repeat(list, n))
	}
	checkPutAll(t, make([]api.Import, 127), "\x7f"+strings.Repeat("\x00", 4*127), 0)
	checkPutAll(t, make([]api.Import, 128), "\x80\x01"+strings.Repeat("\x00", 4*128), 0)
}

// TestPutAllOfWrongOnes has one at every place of a list, and two at all pairs of places.
func TestPutAllOfWrongOnes(t *testing.T) {
	for _, bad := range wrong() {
		checkPutAll(t, []api.Import{bad.x}, "", bad.e)
		for at := range 4 {
			list := []api.Import{plain(0), plain(1), plain(2), plain(3)}
			list[at] = bad.x
			checkPutAll(t, list, "", bad.e)
		}
		for _, other := range wrong() {
			for first := range 4 {
				for second := first + 1; second < 4; second++ {
					list := []api.Import{plain(0), plain(1), plain(2), plain(3)}
					list[first], list[second] = bad.x, other.x
					checkPutAll(t, list, "", bad.e)
				}
			}
		}
	}
}

// P10.3

// mixed has all kinds several times, one that there is not, names of one kind at another, and names that come twice.
func mixed() []api.Import {
	return []api.Import{
		{Module: "env", Name: "memory", Kind: 2, Limits: api.Limits{Min: 1}},
		{Module: "env", Name: "f"},
		{Module: "env", Name: "g", Type: 1},
		{Module: "env", Name: "table", Kind: 1},
		{Module: "env", Name: "g", Kind: 3, Global: api.GlobalType{T: 0x7f}},
		{Module: "GOT", Name: "g", Type: 2},
		{Module: "env", Name: "g", Type: 3},
		{Module: "f", Name: "env", Type: 4},
		{Module: "GOT", Name: "x", Kind: 200, Type: 7},
		{Module: "env", Name: "memory", Kind: 2, Limits: api.Limits{Min: 2}},
		{Module: "GOT", Name: "f", Kind: 3, Global: api.GlobalType{T: 0x7e}},
		{Module: "", Name: "h", Kind: 1},
		{Module: "h", Name: "", Kind: 2},
		{Module: "\xff", Name: "h", Kind: 3},
		{Module: "", Name: "", Type: 5},
	}
}

// pick are the imports at some indices.
func pick(list []api.Import, at ...int) []api.Import {
	var some []api.Import
	for _, i := range at {
		some = append(some, list[i])
	}
	return some
}

func TestOf(t *testing.T) {
	list := mixed()
	checkOf(t, list, 0, pick(list, 1, 2, 5, 6, 7, 14))
	checkOf(t, list, 1, pick(list, 3, 11))
	checkOf(t, list, 2, pick(list, 0, 9, 12))
	checkOf(t, list, 3, pick(list, 4, 10, 13))
	checkOf(t, list, 200, pick(list, 8))
	for kind := 4; kind < 256; kind++ {
		if kind != 200 {
			checkOf(t, list, byte(kind), nil)
		}
	}
	for kind := range 256 {
		checkOf(t, nil, byte(kind), nil)
		checkOf(t, []api.Import{}, byte(kind), nil)
		// A kind that no import has.
		for other := range byte(4) {
			if int(other) != kind {
				checkOf(t, []api.Import{plain(other), plain(other)}, byte(kind), nil)
			}
		}
		two := []api.Import{plain(byte(kind)), plain(byte(kind))}
		checkOf(t, two, byte(kind), two)
	}
	// Imports that come twice count twice.
	checkOf(t, slices.Repeat(list, 3), 1, slices.Repeat(pick(list, 3, 11), 3))
	checkOf(t, many(20000), 0, many(20000))
}

func TestPlace(t *testing.T) {
	list := mixed()
	checkPlace(t, list, 0, "env", "f", 0)
	checkPlace(t, list, 0, "env", "g", 1) // the first of two
	checkPlace(t, list, 0, "GOT", "g", 2)
	checkPlace(t, list, 0, "f", "env", 4) // both names exchanged
	checkPlace(t, list, 0, "", "", 5)
	checkPlace(t, list, 1, "env", "table", 0)
	checkPlace(t, list, 1, "", "h", 1)
	checkPlace(t, list, 2, "env", "memory", 0)
	checkPlace(t, list, 2, "h", "", 2)
	checkPlace(t, list, 3, "env", "g", 0)
	checkPlace(t, list, 3, "GOT", "f", 1)
	checkPlace(t, list, 3, "\xff", "h", 2)
	checkPlace(t, list, 200, "GOT", "x", 0)
	// Names of an import of another kind.
	checkPlace(t, list, 0, "env", "memory", -1)
	checkPlace(t, list, 1, "env", "memory", -1)
	checkPlace(t, list, 3, "env", "f", -1)
	checkPlace(t, list, 2, "env", "table", -1)
	checkPlace(t, list, 0, "GOT", "f", -1)
	checkPlace(t, list, 0, "GOT", "x", -1)
	checkPlace(t, list, 4, "env", "f", -1)
	// A Module alone, and a Name alone.
	checkPlace(t, list, 0, "env", "x", -1)
	checkPlace(t, list, 0, "env", "", -1)
	checkPlace(t, list, 0, "x", "f", -1)
	checkPlace(t, list, 0, "", "f", -1)
	checkPlace(t, list, 3, "GOT", "g", -1)
	// Exchanged.
	checkPlace(t, list, 0, "g", "env", -1)
	checkPlace(t, list, 1, "h", "", -1)
	checkPlace(t, list, 2, "memory", "env", -1)
	// Names that are the same put together, or but for a sign.
	checkPlace(t, list, 0, "en", "vf", -1)
	checkPlace(t, list, 0, "envf", "", -1)
	checkPlace(t, list, 0, "Env", "f", -1)
	checkPlace(t, list, 0, "env", "F", -1)
	checkPlace(t, list, 0, "env ", "f", -1)
	checkPlace(t, list, 0, "env", "ff", -1)
	for kind := range 256 {
		checkPlace(t, nil, byte(kind), "", "", -1)
		checkPlace(t, []api.Import{}, byte(kind), "env", "f", -1)
		checkPlace(t, []api.Import{plain(byte(kind) + 1), plain(byte(kind))}, byte(kind), "", "", 0)
	}
	checkPlace(t, many(20000), 0, "m", "\x7f", 127)
	// The other fields do not count.
	checkPlace(t, []api.Import{{Module: "a", Name: "a", Kind: 1}, {Module: "a", Name: "b", Type: 9}, {Module: "a", Name: "a", Limits: api.Limits{Min: 1}}}, 0, "a", "a", 1)
}

// TestFindEverything asks for all kinds and names in all lists of three.
func TestFindEverything(t *testing.T) {
	names := []string{"", "a", "b"}
	trial.Words([]byte{0, 1, 2, 3, 4, 5, 6, 7, 8}, 3, func(w []byte) {
		var list []api.Import
		for at := range 3 {
			list = append(list, api.Import{Kind: w[at] % 2, Module: names[w[at]%3], Name: names[w[at]/4], Type: uint32(at)})
		}
		for kind := range byte(3) {
			checkOf(t, list, kind, modelOf(list, kind))
			for _, module := range names {
				for _, name := range names {
					checkPlace(t, list, kind, module, name, modelPlace(list, kind, module, name))
				}
			}
		}
	})
}

// P10.4

// anyImport is one that may be, by chance.
func anyImport(next func(n int) int) api.Import {
	names := []string{"", "a", "env", "GOT.mem", "\u20ac\x00", strings.Repeat("n", 127), strings.Repeat("n", 128), strings.Repeat("n", 200)}
	numbers := []uint32{0, 1, 127, 128, 16383, 16384, 65536, 1<<31 - 1, 1 << 31, most}
	x := api.Import{Module: names[next(len(names))], Name: names[next(len(names))], Kind: byte(next(4))}
	switch x.Kind {
	case 0:
		x.Type = numbers[next(len(numbers))]
	case 1, 2:
		x.Limits = api.Limits{Min: numbers[next(len(numbers))], Bound: next(2) == 0}
		if x.Limits.Bound {
			x.Limits.Max = numbers[next(len(numbers))]
		}
	case 3:
		x.Global = api.GlobalType{T: byte(0x7e + next(2)), Mut: next(2) == 0}
	}
	return x
}

// TestGetInvertsPut has imports and lists by chance, and the samples.
func TestGetInvertsPut(t *testing.T) {
	for _, x := range samples() {
		checkComesBack(t, []api.Import{x.x})
	}
	next := trial.Chance(3)
	for range 3000 {
		list := make([]api.Import, next(8))
		for at := range list {
			list[at] = anyImport(next)
		}
		checkComesBack(t, list)
	}
	checkComesBack(t, nil)
	checkComesBack(t, many(10000))
}

// checkComesBack checks that imports and their list are read back, and written as they were.
func checkComesBack(t *testing.T, list []api.Import) {
	t.Helper()
	for _, x := range list {
		b, e := imports.Put(x)
		if e != 0 {
			t.Errorf("Put(%+v): %d", told(x), e)
		}
		s := scan.Over(b)
		if got, stop := try(s); got != x || stop != (abort.Stop{}) || !s.Done() {
			t.Errorf("Get: %+v, %v, At %d, want %+v", told(got), stop, s.At(), told(x))
		}
	}
	b, e := imports.PutAll(list)
	got, stop := tryAll(scan.Over(b))
	if e != 0 || !slices.Equal(got, list) || stop != (abort.Stop{}) {
		t.Errorf("GetAll: %d imports, %v, want %d", len(got), stop, len(list))
	}
	if again, e := imports.PutAll(got); e != 0 || !bytes.Equal(again, b) {
		t.Errorf("PutAll of what came back is not the same")
	}
}

// TestWhatIsReadMayBePut: what Get returns is right, also Limits whose Max is below their Min.
func TestWhatIsReadMayBePut(t *testing.T) {
	trial.Words([]byte{0, 1, 2, 3, 0x70, 0x7e, 0x7f, 0x80}, 4, func(w []byte) {
		for _, lead := range []string{"\x00\x00", "\x01a\x01b"} {
			got, stop := try(scan.Over([]byte(lead + string(w))))
			if stop.Why == 0 {
				checkPutModel(t, got)
				checkRight(t, got, 0)
			}
		}
	})
}

// P1

// TestAnything reads, writes and finds what comes by chance.
func TestAnything(t *testing.T) {
	next := trial.Chance(7)
	for range 6000 {
		b := make([]byte, next(20))
		for at := range b {
			b[at] = byte(next(256))
			if next(3) > 0 {
				b[at] = byte(next(4))
			}
		}
		get.Agrees(t, string(b))
		getAll.Agrees(t, string(b))

		list := make([]api.Import, next(5))
		for at := range list {
			list[at] = anyImport(next)
			switch next(12) {
			case 0:
				list[at].Kind = byte(next(256))
			case 1:
				list[at].Type ^= uint32(next(3))
			case 2:
				list[at].Limits.Max ^= uint32(next(3))
			case 3:
				list[at].Limits.Bound = !list[at].Limits.Bound
			case 4:
				list[at].Global.T = byte(next(256))
			case 5:
				list[at].Global.Mut = !list[at].Global.Mut
			case 6:
				list[at].Name = string(b)
			case 7:
				list[at].Module += list[at].Name
			}
			checkPutModel(t, list[at])
		}
		checkPutAllModel(t, list)
		kind, x := byte(next(5)), anyImport(next)
		checkOf(t, list, kind, modelOf(list, kind))
		checkPlace(t, list, kind, x.Module, x.Name, modelPlace(list, kind, x.Module, x.Name))
	}
}

func TestManyBytes(t *testing.T) {
	for x := range 256 {
		b := strings.Repeat(string([]byte{byte(x)}), 1000)
		get.Agrees(t, b)
		getAll.Agrees(t, b)
	}
	long := strings.Repeat("n", 1<<20)
	checkRight(t, api.Import{Module: long, Name: long}, 13)
	checkPlace(t, mixed(), 0, long, long, -1)
}

// P2

// TestArgumentsStay looks at bytes and lists, and at what is behind them that there is room for.
func TestArgumentsStay(t *testing.T) {
	room := []byte("\x03\x03env\x01f\x00\x05\x01t\x00\x01\x70\x01\x03\x04\x00\x00\x03\x7f\x01\x00\x00")
	whole := slices.Clone(room)
	for n := range len(room) + 1 {
		tryAll(scan.Over(room[:n]))
		try(scan.Over(room[:n]))
		try(scan.Over(room[min(n, 1):n]))
	}
	if !bytes.Equal(room, whole) {
		t.Errorf("the bytes were % x and are % x", whole, room)
	}

	list := mixed()
	for n := range len(list) + 1 {
		imports.PutAll(list[:n])
		imports.PutAll(list[1:max(n, 1)])
		for kind := range byte(5) {
			imports.Of(list[:n], kind)
			imports.Count(list[:n], kind)
			imports.Place(list[:n], kind, "env", "g")
			imports.Place(list[:n], kind, "none", "g")
		}
	}
	if !slices.Equal(list, mixed()) {
		t.Errorf("the list is %+v", list)
	}
}

var other = api.Import{Module: "other", Name: "other", Kind: 9, Type: 9, Limits: api.Limits{Min: 9, Max: 9, Bound: true}, Global: api.GlobalType{T: 9, Mut: true}}

// TestArgumentsAreNotKept spoils what was handed in: the results stay.
func TestArgumentsAreNotKept(t *testing.T) {
	for _, x := range samples() {
		b := []byte("\x01" + x.b)
		one, _ := try(scan.Over(b[1:]))
		all, _ := tryAll(scan.Over(b))
		trial.Spoil(b, 0xee)
		if one != x.x || !slices.Equal(all, []api.Import{x.x}) {
			t.Errorf("Get: %+v, GetAll: %+v, want %+v", told(one), all, told(x.x))
		}
		list := []api.Import{x.x}
		put, _ := imports.PutAll(list)
		of := imports.Of(list, x.x.Kind)
		trial.Spoil(list, other)
		if string(put) != "\x01"+x.b || !slices.Equal(of, []api.Import{x.x}) {
			t.Errorf("PutAll: % x, Of: %+v, want %+v", trial.Short(put), of, told(x.x))
		}
	}
	// A scanner goes on with the bytes that it was made of.
	b := []byte("\x03env\x01f\x00\x05\x00\x00\x00\x06")
	s := scan.Over(b)
	try(s)
	trial.Spoil(b, 0xee)
	if got, stop := try(s); got != (api.Import{Type: 6}) || stop != (abort.Stop{}) {
		t.Errorf("Get: %+v, %v", got, stop)
	}
}

// TestResultsAreNew spoils results: neither the arguments nor the results of other calls change.
func TestResultsAreNew(t *testing.T) {
	for _, x := range samples() {
		for range 2 {
			b, _ := imports.Put(x.x)
			if string(b) != x.b {
				t.Errorf("Put: % x, want % x", trial.Short(b), trial.Short(x.b))
			}
			trial.Spoil(b, 0xee)
			b, _ = imports.PutAll([]api.Import{x.x})
			if string(b) != "\x01"+x.b {
				t.Errorf("PutAll: % x, want % x", trial.Short(b), trial.Short(x.b))
			}
			trial.Spoil(b, 0xee)
		}
	}
	list := mixed()
	room := append(mixed(), mixed()...)
	for kind := range byte(5) {
		for range 2 {
			of := imports.Of(list, kind)
			if !slices.Equal(of, modelOf(mixed(), kind)) {
				t.Errorf("Of %d: %+v", kind, of)
			}
			trial.Spoil(of, other)
			trial.Spoil(imports.Of(room[:len(list)], kind), other)
		}
	}
	all := make([]api.Import, 3)
	trial.Spoil(imports.Of(all, 0), other)
	if !slices.Equal(list, mixed()) || !slices.Equal(room, append(mixed(), mixed()...)) || !slices.Equal(all, make([]api.Import, 3)) {
		t.Errorf("the lists are %+v, %+v and %+v", list, room, all)
	}
	b := []byte("\x02\x00\x00\x00\x05\x00\x00\x00\x06")
	first, _ := tryAll(scan.Over(b))
	second, _ := tryAll(scan.Over(b))
	trial.Spoil(first, other)
	if !slices.Equal(second, []api.Import{{Type: 5}, {Type: 6}}) {
		t.Errorf("GetAll: %+v", second)
	}
}

// TestCallsDoNotMatter calls everything with errors and without, in between.
func TestCallsDoNotMatter(t *testing.T) {
	for _, x := range samples() {
		for _, bad := range wrong() {
			imports.Right(bad.x)
			imports.Put(bad.x)
			imports.PutAll([]api.Import{x.x, bad.x})
			try(scan.Over([]byte("\x00\x00\x04")))
			tryAll(scan.Over([]byte("\x02" + x.b + "\x00")))
			imports.Of([]api.Import{bad.x}, bad.x.Kind)
			imports.Count([]api.Import{bad.x}, bad.x.Kind)
			imports.Place([]api.Import{bad.x}, bad.x.Kind, bad.x.Module, bad.x.Name)
		}
		checkPut(t, x.x, x.b)
		get.Takes(t, x.b, x.x, len(x.b))
		checkGetAll(t, "\x01"+x.b, []api.Import{x.x})
		checkPutAll(t, []api.Import{x.x}, "\x01"+x.b, 0)
		checkOf(t, []api.Import{x.x}, x.x.Kind, []api.Import{x.x})
		checkPlace(t, []api.Import{x.x}, x.x.Kind, x.x.Module, x.x.Name, 0)
	}
}
