package imports_test

import (
	"math"
	"slices"
	"strings"
	"testing"

	"creel/api"
	"creel/imports"
	"creel/trial"
)

// The model is written from the chapters with numbers of its own, and asks no layer; most of it stands in package trial.

// modelOf is P10.3's first sentence.
func modelOf(list []api.Import, kind byte) []api.Import {
	return slices.DeleteFunc(slices.Clone(list), func(x api.Import) bool { return x.Kind != kind })
}

// modelPlace is P10.3's last sentence: the index, or -1.
func modelPlace(list []api.Import, kind byte, module, name string) int {
	return slices.IndexFunc(modelOf(list, kind), func(x api.Import) bool {
		return [2]string{x.Module, x.Name} == [2]string{module, name}
	})
}

// Checks.

// told is an import with no more of its names than is worth telling.
func told(x api.Import) api.Import {
	x.Module, x.Name = trial.Short(x.Module), trial.Short(x.Name)
	return x
}

// checkOf checks the imports of a kind, and their number.
func checkOf(t *testing.T, list []api.Import, kind byte, want []api.Import) {
	t.Helper()
	if got := imports.Of(list, kind); !slices.Equal(got, want) {
		t.Errorf("Of %d in %d imports: %+v, want %+v", kind, len(list), got, want)
	}
	if got := imports.Count(list, kind); got != len(want) {
		t.Errorf("Count of %d in %d imports: %d, want %d", kind, len(list), got, len(want))
	}
}

// checkPlace checks that the import at an index, or none for -1, is found.
func checkPlace(t *testing.T, list []api.Import, kind byte, module, name string, want int) {
	t.Helper()
	got, ok := imports.Place(list, kind, module, name)
	if got != max(want, 0) || ok != (want >= 0) {
		t.Errorf("Place(%d, %q, %q) in %d imports: %d, %v, want %d", kind, module, name, len(list), got, ok, want)
	}
}

const most = math.MaxUint32

// plain is an import of each kind with as little in it as may be.
func plain(kind byte) api.Import {
	x := api.Import{Kind: kind}
	if kind == 3 {
		x.Global.T = 0x7f
	}
	return x
}

// layer is what reads and writes.
var layer = trial.Layer[api.Import]{
	Right:  imports.Right,
	Put:    imports.Put,
	Get:    imports.Get,
	GetAll: imports.GetAll,
	PutAll: imports.PutAll,

	ModelRight: trial.ImportError,
	ModelPut:   trial.ImportBytes,
	ModelGet:   (*trial.Model).Import,

	Samples: samples,
	Wrong:   wrong,
	Broken:  broken(),
	Any:     anyImport,
	Other:   api.Import{Module: "other", Name: "other", Kind: 9, Type: 9, Limits: api.Limits{Min: 9, Max: 9, Bound: true}, Global: api.GlobalType{T: 9, Mut: true}},
	Same:    func(a, b api.Import) bool { return a == b },
	Tell:    func(x api.Import) any { return told(x) },
}

// get reads an import.
var get = layer.One()

// sample is an import, and the bytes that it has.
type sample = trial.Sample[api.Import]

func samples() []sample {
	long := strings.Repeat("n", 200)
	limits := func(min, max uint32) api.Limits { return api.Limits{Min: min, Max: max, Bound: true} }
	return []sample{
		{E: api.Import{Module: "env", Name: "f", Type: 5}, B: "\x03env\x01f\x00\x05"},
		{E: api.Import{}, B: "\x00\x00\x00\x00"},
		{E: api.Import{Module: "a"}, B: "\x01a\x00\x00\x00"},
		{E: api.Import{Name: "a"}, B: "\x00\x01a\x00\x00"},
		{E: api.Import{Module: "\u20ac", Name: "\x00\"\x7f\n", Type: 1}, B: "\x03\xe2\x82\xac\x04\x00\"\x7f\n\x00\x01"},
		{E: api.Import{Module: "ab", Name: "abc", Type: 127}, B: "\x02ab\x03abc\x00\x7f"},
		{E: api.Import{Type: 128}, B: "\x00\x00\x00\x80\x01"},
		{E: api.Import{Type: 1<<31 - 1}, B: "\x00\x00\x00\xff\xff\xff\xff\x07"},
		{E: api.Import{Type: 1 << 31}, B: "\x00\x00\x00\x80\x80\x80\x80\x08"},
		{E: api.Import{Type: most}, B: "\x00\x00\x00\xff\xff\xff\xff\x0f"},
		{E: api.Import{Module: long, Name: long[:128]}, B: "\xc8\x01" + long + "\x80\x01" + long[:128] + "\x00\x00"},
		{E: api.Import{Module: long[:127], Name: long}, B: "\x7f" + long[:127] + "\xc8\x01" + long + "\x00\x00"},
		{E: api.Import{Kind: 1}, B: "\x00\x00\x01\x70\x00\x00"},
		{E: api.Import{Module: "env", Name: "t", Kind: 1, Limits: api.Limits{Min: 3}}, B: "\x03env\x01t\x01\x70\x00\x03"},
		{E: api.Import{Module: "env", Name: "t", Kind: 1, Limits: limits(3, 300)}, B: "\x03env\x01t\x01\x70\x01\x03\xac\x02"},
		{E: api.Import{Kind: 1, Limits: api.Limits{Min: most}}, B: "\x00\x00\x01\x70\x00\xff\xff\xff\xff\x0f"},
		{E: api.Import{Kind: 1, Limits: limits(most, most)}, B: "\x00\x00\x01\x70\x01\xff\xff\xff\xff\x0f\xff\xff\xff\xff\x0f"},
		{E: api.Import{Module: "env", Name: "m", Kind: 2, Limits: api.Limits{Min: 2}}, B: "\x03env\x01m\x02\x00\x02"},
		{E: api.Import{Module: "env", Name: "m", Kind: 2, Limits: limits(1, 65536)}, B: "\x03env\x01m\x02\x01\x01\x80\x80\x04"},
		{E: api.Import{Kind: 2, Limits: limits(0, 0)}, B: "\x00\x00\x02\x01\x00\x00"},
		{E: api.Import{Kind: 2, Limits: limits(5, 4)}, B: "\x00\x00\x02\x01\x05\x04"}, // nobody asks whether they may be
		{E: api.Import{Kind: 2, Limits: limits(0, most)}, B: "\x00\x00\x02\x01\x00\xff\xff\xff\xff\x0f"},
		{E: api.Import{Kind: 2, Limits: limits(most, 0)}, B: "\x00\x00\x02\x01\xff\xff\xff\xff\x0f\x00"},
		{E: api.Import{Kind: 2, Limits: api.Limits{Min: most}}, B: "\x00\x00\x02\x00\xff\xff\xff\xff\x0f"},
		{E: api.Import{Module: "env", Name: "g", Kind: 3, Global: api.GlobalType{T: 0x7f}}, B: "\x03env\x01g\x03\x7f\x00"},
		{E: api.Import{Module: "env", Name: "g", Kind: 3, Global: api.GlobalType{T: 0x7e, Mut: true}}, B: "\x03env\x01g\x03\x7e\x01"},
		{E: api.Import{Kind: 3, Global: api.GlobalType{T: 0x7f, Mut: true}}, B: "\x00\x00\x03\x7f\x01"},
		{E: api.Import{Kind: 3, Global: api.GlobalType{T: 0x7e}}, B: "\x00\x00\x03\x7e\x00"},
	}
}

// wrong are imports that may not be, one for each way to be so.
func wrong() []trial.Bad[api.Import] {
	return []trial.Bad[api.Import]{
		{E: api.Import{Module: strings.Repeat("n", 201)}, Why: 13},
		{E: api.Import{Name: strings.Repeat("n", 201)}, Why: 13},
		{E: api.Import{Module: "\xff"}, Why: 4},
		{E: api.Import{Name: "\xff"}, Why: 4},
		{E: api.Import{Kind: 4}, Why: 43},
		{E: api.Import{Kind: 255}, Why: 43},
		{E: api.Import{Kind: 1, Type: 1}, Why: 1},
		{E: api.Import{Limits: api.Limits{Min: 1}}, Why: 1},
		{E: api.Import{Kind: 2, Limits: api.Limits{Max: 1}}, Why: 1},
		{E: api.Import{Kind: 2, Global: api.GlobalType{Mut: true}}, Why: 1},
		{E: api.Import{Kind: 3}, Why: 7},
		{E: api.Import{Kind: 3, Global: api.GlobalType{T: 0x7d}}, Why: 8},
	}
}

// broken has every byte that is wrong, and names and numbers that are, at each of their places.
func broken() []trial.Broken {
	flag := trial.UpTo(1, 10)
	return slices.Concat(
		trial.BrokenNames("", "\x00", "\x03env", "\xc8\x01"+strings.Repeat("n", 200)),
		trial.BrokenNumbers("\x00\x00\x00", "\x01a\x01b\x00", "\x00\x00\x01\x70\x00", "\x00\x00\x01\x70\x01", "\x00\x00\x01\x70\x01\x03", "\x00\x00\x02\x00", "\x00\x00\x02\x01", "\x00\x00\x02\x01\x83\x00"),
		trial.BrokenBytes(trial.UpTo(3, 43), "\x00\x00", "\x03env\x01f"),
		trial.BrokenBytes(trial.Only(0x70, 7), "\x01t\x00\x01"),
		trial.BrokenBytes(flag, "\x01m\x00\x02", "\x01t\x00\x01\x70", "\x01g\x00\x03\x7f", "\x01g\x00\x03\x7e"),
		trial.BrokenBytes(trial.TypeError, "\x01g\x00\x03"),
	)
}

// P10.1

func TestEveryKind(t *testing.T) {
	for kind := range 256 {
		want := api.Errno(0)
		if kind > 3 {
			want = 43
		}
		layer.Judges(t, plain(byte(kind)), want)
		x := plain(byte(kind))
		x.Module, x.Name = "env", "f"
		layer.Judges(t, x, want)
	}
}

func TestNames(t *testing.T) {
	for _, n := range trial.Names() {
		for kind := range byte(4) {
			x := plain(kind)
			x.Module = n.S
			layer.Judges(t, x, n.Why)
			x.Name = "f"
			layer.Judges(t, x, n.Why)
			x.Module, x.Name = "", n.S
			layer.Judges(t, x, n.Why)
			x.Module = "env"
			layer.Judges(t, x, n.Why)
			x.Module = n.S
			layer.Judges(t, x, n.Why)
		}
	}
}

// TestWhichErrorCounts has two errors in each import.
func TestWhichErrorCounts(t *testing.T) {
	long, odd := strings.Repeat("n", 201), "\xff"
	one := api.Limits{Min: 1}
	for _, x := range []struct {
		x api.Import
		e api.Errno
	}{
		// Both names.
		{api.Import{Module: long, Name: odd}, 13},
		{api.Import{Module: odd, Name: long}, 4},
		{api.Import{Module: long, Name: long}, 13},
		{api.Import{Module: odd, Name: odd}, 4},
		// A name and the kind.
		{api.Import{Module: long, Kind: 4}, 13},
		{api.Import{Module: odd, Kind: 255}, 4},
		{api.Import{Name: long, Kind: 255}, 13},
		{api.Import{Name: odd, Kind: 4}, 4},
		// A name and a field.
		{api.Import{Module: long, Limits: one}, 13},
		{api.Import{Name: odd, Kind: 1, Type: 1}, 4},
		{api.Import{Name: long, Kind: 2, Limits: api.Limits{Max: 1}}, 13},
		// A name and a global's type.
		{api.Import{Module: odd, Kind: 3}, 4},
		{api.Import{Name: long, Kind: 3, Global: api.GlobalType{T: 0x7d}}, 13},
		// The kind and a field: none belongs to a kind that there is not.
		{api.Import{Kind: 4, Type: 1}, 43},
		{api.Import{Kind: 4, Limits: one}, 43},
		{api.Import{Kind: 255, Limits: api.Limits{Max: 1}}, 43},
		{api.Import{Kind: 4, Global: api.GlobalType{T: 0x7d}}, 43},
		{api.Import{Kind: 128, Type: 1, Limits: one, Global: api.GlobalType{T: 1, Mut: true}}, 43},
		// A field and a global's type.
		{api.Import{Kind: 3, Type: 1}, 1},
		{api.Import{Kind: 3, Type: 1, Global: api.GlobalType{T: 0x7d}}, 1},
		{api.Import{Kind: 3, Limits: one, Global: api.GlobalType{T: 0x7c}}, 1},
		{api.Import{Kind: 3, Limits: api.Limits{Max: 1}}, 1},
		{api.Import{Kind: 3, Limits: api.Limits{Bound: true}, Global: api.GlobalType{T: 0x70}}, 1},
	} {
		layer.Judges(t, x.x, x.e)
	}
}

// TestFieldsOfOtherKinds has every one alone, with the smallest and the largest value.
func TestFieldsOfOtherKinds(t *testing.T) {
	fields := []struct {
		kinds string // those that it belongs to
		set   func(x *api.Import)
	}{
		{"\x00", func(x *api.Import) { x.Type = 1 }},
		{"\x00", func(x *api.Import) { x.Type = most }},
		{"\x01\x02", func(x *api.Import) { x.Limits.Min = 1 }},
		{"\x01\x02", func(x *api.Import) { x.Limits.Min = most }},
		{"\x01\x02", func(x *api.Import) { x.Limits.Bound = true }},
		{"\x01\x02", func(x *api.Import) { x.Limits.Bound, x.Limits.Max = true, 1 }},
		{"", func(x *api.Import) { x.Limits.Max = 1 }},
		{"", func(x *api.Import) { x.Limits.Max = most }},
		{"\x03", func(x *api.Import) { x.Global.T = 0x7e }},
		{"\x03", func(x *api.Import) { x.Global.Mut = true }},
	}
	for _, f := range fields {
		for kind := range byte(4) {
			x := plain(kind)
			f.set(&x)
			want := api.Errno(1)
			if strings.IndexByte(f.kinds, kind) >= 0 {
				want = 0
			}
			layer.Judges(t, x, want)
			x.Module, x.Name = "env", "f"
			layer.Judges(t, x, want)
		}
	}
	// Types that are none, too: they are not what is wrong with them.
	for b := 1; b < 256; b++ {
		for kind := range byte(3) {
			layer.Judges(t, api.Import{Kind: kind, Global: api.GlobalType{T: byte(b)}}, 1)
		}
	}
}

func TestLimits(t *testing.T) {
	for kind := byte(1); kind < 3; kind++ {
		for _, a := range []uint32{0, 1, 2, 127, 128, 65536, 65537, 1<<31 - 1, 1 << 31, most - 1, most} {
			layer.Judges(t, api.Import{Kind: kind, Limits: api.Limits{Min: a}}, 0)
			for _, b := range []uint32{0, 1, 2, 127, 128, 65536, 65537, 1<<31 - 1, 1 << 31, most - 1, most} {
				layer.Judges(t, api.Import{Kind: kind, Limits: api.Limits{Min: a, Max: b, Bound: true}}, 0)
				if b > 0 {
					layer.Judges(t, api.Import{Kind: kind, Limits: api.Limits{Min: a, Max: b}}, 1)
				}
			}
		}
	}
}

func TestEveryTypeOfAGlobal(t *testing.T) {
	for b := range 256 {
		want := api.Errno(7)
		switch b {
		case 0x7f, 0x7e:
			want = 0
		case 0x7d, 0x7c:
			want = 8
		}
		for _, mut := range []bool{false, true} {
			layer.Judges(t, api.Import{Kind: 3, Global: api.GlobalType{T: byte(b), Mut: mut}}, want)
			layer.Judges(t, api.Import{Module: "env", Name: "g", Kind: 3, Global: api.GlobalType{T: byte(b), Mut: mut}}, want)
		}
	}
}

func TestPut(t *testing.T) { layer.TestPut(t) }

// TestExample is the chapter's.
func TestExample(t *testing.T) {
	x := api.Import{Module: "env", Name: "f", Kind: api.KindFunc, Type: 5}
	layer.Writes(t, x, "\x03env\x01\x66\x00\x05")
	get.Takes(t, "\x03env\x01\x66\x00\x05", x, 8)
}

// TestAllFields has all values at the edges of all fields with each other.
func TestAllFields(t *testing.T) {
	names := []string{"", "a", strings.Repeat("n", 200), strings.Repeat("n", 201), "\xff"}
	numbers := []uint32{0, 1, most}
	var fields []api.Import
	for _, typ := range numbers {
		for _, min := range numbers {
			for _, max := range numbers {
				for _, b := range []byte{0, 1, 0x70, 0x7c, 0x7d, 0x7e, 0x7f, 0x80} {
					for bits := range 4 {
						fields = append(fields, api.Import{Type: typ, Limits: api.Limits{Min: min, Max: max, Bound: bits&1 > 0}, Global: api.GlobalType{T: b, Mut: bits&2 > 0}})
					}
				}
			}
		}
	}
	for _, module := range names {
		for _, name := range names {
			for _, kind := range []byte{0, 1, 2, 3, 4, 255} {
				for _, x := range fields {
					x.Module, x.Name, x.Kind = module, name, kind
					layer.AgreesOn(t, x)
				}
			}
		}
	}
}

// P10.2

func TestGet(t *testing.T) { layer.TestGet(t) }

func TestGetInTurn(t *testing.T) { layer.TestGetInTurn(t) }

func TestBroken(t *testing.T) { layer.TestBroken(t) }

// TestCutOff cuts imports off at every place: the error is at the part that is not whole.
func TestCutOff(t *testing.T) {
	for _, x := range []struct {
		b     string
		parts []int // where a part of it begins
	}{
		{"\x03env\x01f\x00\x05", []int{0, 1, 4, 5, 6, 7}},
		{"\x00\x00\x00\x85\x80\x00", []int{0, 1, 2, 3}},
		{"\x83\x00env\x81\x80\x00f\x00\x05", []int{0, 2, 5, 8, 9, 10}},
		{"\x00\x03\xe2\x82\xac\x01\x70\x00\x83\x00", []int{0, 1, 2, 5, 6, 7, 8}},
		{"\x01a\x01b\x01\x70\x01\x83\x00\x84\x80\x00", []int{0, 1, 2, 3, 4, 5, 6, 7, 9}},
		{"\x01a\x01b\x02\x00\xff\xff\xff\xff\x0f", []int{0, 1, 2, 3, 4, 5, 6}},
		{"\x02ab\x00\x02\x01\xff\xff\xff\xff\x0f\x80\x80\x80\x80\x08", []int{0, 1, 3, 4, 5, 6, 11}},
		{"\x02ab\x00\x03\x7f\x00", []int{0, 1, 3, 4, 5, 6}},
		{"\x00\x02ab\x03\x7e\x01", []int{0, 1, 2, 4, 5, 6}},
	} {
		layer.TestCutOff(t, x.b, x.parts)
	}
}

// TestEachKind has what could also be behind another kind.
func TestEachKind(t *testing.T) {
	env := func(x api.Import) api.Import {
		x.Module, x.Name = "env", "f"
		return x
	}
	get.Takes(t, "\x03env\x01f\x00\x70\x00\x03", env(api.Import{Type: 0x70}), 8)
	get.Takes(t, "\x03env\x01f\x01\x70\x00\x03", env(api.Import{Kind: 1, Limits: api.Limits{Min: 3}}), 10)
	get.Takes(t, "\x03env\x01f\x02\x00\x03\x04", env(api.Import{Kind: 2, Limits: api.Limits{Min: 3}}), 9)
	get.Takes(t, "\x03env\x01f\x03\x7f\x00\x03", env(api.Import{Kind: 3, Global: api.GlobalType{T: 0x7f}}), 9)
}

// TestLongerNumbers has numbers with more bytes than they need.
func TestLongerNumbers(t *testing.T) {
	get.Takes(t, "\x83\x80\x80\x80\x00env\x81\x00f\x00\x85\x80\x80\x80\x00", api.Import{Module: "env", Name: "f", Type: 5}, 17)
	get.Takes(t, "\x80\x00\x80\x80\x00\x01\x70\x01\x83\x00\x84\x80\x80\x00", api.Import{Kind: 1, Limits: api.Limits{Min: 3, Max: 4, Bound: true}}, 14)
}

// TestEveryByteChanged changes the bytes of imports, one at a time, to every value.
func TestEveryByteChanged(t *testing.T) {
	for _, good := range []string{
		"\x03env\x01f\x00\x05\x00",
		"\x00\x02\xc3\xa9\x00\xff\xff\xff\xff\x0f",
		"\x01a\x01b\x01\x70\x00\x03\x04",
		"\x01a\x01b\x01\x70\x01\x83\x00\x04",
		"\x01a\x01b\x02\x00\x03\x04",
		"\x01a\x01b\x02\x01\x03\x84\x00",
		"\x01a\x01b\x03\x7f\x00\x00",
		"\x01a\x01b\x03\x7e\x01",
	} {
		layer.TestBytes(t, good)
	}
}

// TestAllShortImports tries the strings of the bytes that mean something, alone and behind two names.
func TestAllShortImports(t *testing.T) {
	layer.TestWords(t, "\x00\x01\x02\x03\x04\x70\x7d\x7f\x80\xff", 4, "\x00\x01a")
}

func TestGetAll(t *testing.T) { layer.TestGetAll(t) }

func TestGetAllOfAnotherNumber(t *testing.T) { layer.TestGetAllOfAnotherNumber(t) }

// many are imports that differ from each other.
func many(n int) []api.Import {
	list := make([]api.Import, n)
	for at := range list {
		list[at] = api.Import{Module: "m", Name: trial.Uint(at % 128), Type: uint32(at)}
	}
	return list
}

// TestMostImports has 10000 of them and one more.
func TestMostImports(t *testing.T) { layer.TestMost(t, many(10001)) }

func TestPutAll(t *testing.T) { layer.TestPutAll(t) }

func TestPutAllOfWrongOnes(t *testing.T) { layer.TestPutAllOfWrongOnes(t) }

// P10.3

// mixed has all kinds several times, one that there is not, names of one kind at another, and names that come twice.
func mixed() []api.Import {
	return []api.Import{
		{Module: "env", Name: "memory", Kind: 2, Limits: api.Limits{Min: 1}},
		{Module: "env", Name: "f"},
		{Module: "env", Name: "g", Type: 1},
		{Module: "env", Name: "table", Kind: 1},
		{Module: "env", Name: "g", Kind: 3, Global: api.GlobalType{T: 0x7f}},
		{Module: "GOT", Name: "g", Type: 2},
		{Module: "env", Name: "g", Type: 3},
		{Module: "f", Name: "env", Type: 4},
		{Module: "GOT", Name: "x", Kind: 200, Type: 7},
		{Module: "env", Name: "memory", Kind: 2, Limits: api.Limits{Min: 2}},
		{Module: "GOT", Name: "f", Kind: 3, Global: api.GlobalType{T: 0x7e}},
		{Module: "", Name: "h", Kind: 1},
		{Module: "h", Name: "", Kind: 2},
		{Module: "\xff", Name: "h", Kind: 3},
		{Module: "", Name: "", Type: 5},
	}
}

// pick are the imports at some indices.
func pick(list []api.Import, at ...int) []api.Import {
	var some []api.Import
	for _, i := range at {
		some = append(some, list[i])
	}
	return some
}

func TestOf(t *testing.T) {
	list := mixed()
	checkOf(t, list, 0, pick(list, 1, 2, 5, 6, 7, 14))
	checkOf(t, list, 1, pick(list, 3, 11))
	checkOf(t, list, 2, pick(list, 0, 9, 12))
	checkOf(t, list, 3, pick(list, 4, 10, 13))
	checkOf(t, list, 200, pick(list, 8))
	for kind := 4; kind < 256; kind++ {
		if kind != 200 {
			checkOf(t, list, byte(kind), nil)
		}
	}
	for kind := range 256 {
		checkOf(t, nil, byte(kind), nil)
		checkOf(t, []api.Import{}, byte(kind), nil)
		// A kind that no import has.
		for other := range byte(4) {
			if int(other) != kind {
				checkOf(t, []api.Import{plain(other), plain(other)}, byte(kind), nil)
			}
		}
		two := []api.Import{plain(byte(kind)), plain(byte(kind))}
		checkOf(t, two, byte(kind), two)
	}
	// Imports that come twice count twice.
	checkOf(t, slices.Repeat(list, 3), 1, slices.Repeat(pick(list, 3, 11), 3))
	checkOf(t, many(20000), 0, many(20000))
}

func TestPlace(t *testing.T) {
	list := mixed()
	checkPlace(t, list, 0, "env", "f", 0)
	checkPlace(t, list, 0, "env", "g", 1) // the first of two
	checkPlace(t, list, 0, "GOT", "g", 2)
	checkPlace(t, list, 0, "f", "env", 4) // both names exchanged
	checkPlace(t, list, 0, "", "", 5)
	checkPlace(t, list, 1, "env", "table", 0)
	checkPlace(t, list, 1, "", "h", 1)
	checkPlace(t, list, 2, "env", "memory", 0)
	checkPlace(t, list, 2, "h", "", 2)
	checkPlace(t, list, 3, "env", "g", 0)
	checkPlace(t, list, 3, "GOT", "f", 1)
	checkPlace(t, list, 3, "\xff", "h", 2)
	checkPlace(t, list, 200, "GOT", "x", 0)
	// Names of an import of another kind.
	checkPlace(t, list, 0, "env", "memory", -1)
	checkPlace(t, list, 1, "env", "memory", -1)
	checkPlace(t, list, 3, "env", "f", -1)
	checkPlace(t, list, 2, "env", "table", -1)
	checkPlace(t, list, 0, "GOT", "f", -1)
	checkPlace(t, list, 0, "GOT", "x", -1)
	checkPlace(t, list, 4, "env", "f", -1)
	// A Module alone, and a Name alone.
	checkPlace(t, list, 0, "env", "x", -1)
	checkPlace(t, list, 0, "env", "", -1)
	checkPlace(t, list, 0, "x", "f", -1)
	checkPlace(t, list, 0, "", "f", -1)
	checkPlace(t, list, 3, "GOT", "g", -1)
	// Exchanged.
	checkPlace(t, list, 0, "g", "env", -1)
	checkPlace(t, list, 1, "h", "", -1)
	checkPlace(t, list, 2, "memory", "env", -1)
	// Names that are the same put together, or but for a sign.
	checkPlace(t, list, 0, "en", "vf", -1)
	checkPlace(t, list, 0, "envf", "", -1)
	checkPlace(t, list, 0, "Env", "f", -1)
	checkPlace(t, list, 0, "env", "F", -1)
	checkPlace(t, list, 0, "env ", "f", -1)
	checkPlace(t, list, 0, "env", "ff", -1)
	for kind := range 256 {
		checkPlace(t, nil, byte(kind), "", "", -1)
		checkPlace(t, []api.Import{}, byte(kind), "env", "f", -1)
		checkPlace(t, []api.Import{plain(byte(kind) + 1), plain(byte(kind))}, byte(kind), "", "", 0)
	}
	checkPlace(t, many(20000), 0, "m", "\x7f", 127)
	// The other fields do not count.
	checkPlace(t, []api.Import{{Module: "a", Name: "a", Kind: 1}, {Module: "a", Name: "b", Type: 9}, {Module: "a", Name: "a", Limits: api.Limits{Min: 1}}}, 0, "a", "a", 1)
}

// TestFindEverything asks for all kinds and names in all lists of three.
func TestFindEverything(t *testing.T) {
	names := []string{"", "a", "b"}
	trial.Words([]byte{0, 1, 2, 3, 4, 5, 6, 7, 8}, 3, func(w []byte) {
		var list []api.Import
		for at := range 3 {
			list = append(list, api.Import{Kind: w[at] % 2, Module: names[w[at]%3], Name: names[w[at]/4], Type: uint32(at)})
		}
		for kind := range byte(3) {
			checkOf(t, list, kind, modelOf(list, kind))
			for _, module := range names {
				for _, name := range names {
					checkPlace(t, list, kind, module, name, modelPlace(list, kind, module, name))
				}
			}
		}
	})
}

// P10.4

// anyImport is one that may be, by chance.
func anyImport(next func(n int) int) api.Import {
	names := []string{"", "a", "env", "GOT.mem", "\u20ac\x00", strings.Repeat("n", 127), strings.Repeat("n", 128), strings.Repeat("n", 200)}
	numbers := []uint32{0, 1, 127, 128, 16383, 16384, 65536, 1<<31 - 1, 1 << 31, most}
	x := api.Import{Module: names[next(len(names))], Name: names[next(len(names))], Kind: byte(next(4))}
	switch x.Kind {
	case 0:
		x.Type = numbers[next(len(numbers))]
	case 1, 2:
		x.Limits = api.Limits{Min: numbers[next(len(numbers))], Bound: next(2) == 0}
		if x.Limits.Bound {
			x.Limits.Max = numbers[next(len(numbers))]
		}
	case 3:
		x.Global = api.GlobalType{T: byte(0x7e + next(2)), Mut: next(2) == 0}
	}
	return x
}

func TestGetInvertsPut(t *testing.T) {
	layer.TestInverse(t)
	layer.ComeBack(t, many(10000))
}

// P1

func TestManyBytes(t *testing.T) { layer.TestManyBytes(t) }

// TestAnything writes and finds what comes by chance.
func TestAnything(t *testing.T) {
	next := trial.Chance(7)
	for range 6000 {
		list := make([]api.Import, next(5))
		for at := range list {
			list[at] = anyImport(next)
			switch next(12) {
			case 0:
				list[at].Kind = byte(next(256))
			case 1:
				list[at].Type ^= uint32(next(3))
			case 2:
				list[at].Limits.Max ^= uint32(next(3))
			case 3:
				list[at].Limits.Bound = !list[at].Limits.Bound
			case 4:
				list[at].Global.T = byte(next(256))
			case 5:
				list[at].Global.Mut = !list[at].Global.Mut
			case 6:
				list[at].Name = trial.Names()[next(len(trial.Names()))].S
			case 7:
				list[at].Module += list[at].Name
			}
			layer.AgreesOn(t, list[at])
		}
		layer.AgreesOnAll(t, list)
		kind, x := byte(next(5)), anyImport(next)
		checkOf(t, list, kind, modelOf(list, kind))
		checkPlace(t, list, kind, x.Module, x.Name, modelPlace(list, kind, x.Module, x.Name))
	}
}

func TestLongNames(t *testing.T) {
	long := strings.Repeat("n", 1<<20)
	layer.Judges(t, api.Import{Module: long, Name: long}, 13)
	checkPlace(t, mixed(), 0, long, long, -1)
}

// P2

// TestArguments looks at bytes and lists, and at what is behind them that there is room for.
func TestArguments(t *testing.T) {
	layer.TestArguments(t)
	list := mixed()
	for n := range len(list) + 1 {
		for kind := range byte(5) {
			imports.Of(list[:n], kind)
			imports.Count(list[:n], kind)
			imports.Place(list[:n], kind, "env", "g")
			imports.Place(list[:n], kind, "none", "g")
		}
	}
	if !slices.Equal(list, mixed()) {
		t.Errorf("the list is %+v", list)
	}
}

// TestKept spoils what was handed in: the results stay.
func TestKept(t *testing.T) {
	layer.TestKept(t)
	list := mixed()
	of := imports.Of(list, 0)
	trial.Spoil(list, layer.Other)
	if !slices.Equal(of, modelOf(mixed(), 0)) {
		t.Errorf("Of: %+v", of)
	}
}

// TestNew spoils results: neither the arguments nor the results of other calls change.
func TestNew(t *testing.T) {
	layer.TestNew(t)
	list := mixed()
	room := append(mixed(), mixed()...)
	for kind := range byte(5) {
		for range 2 {
			of := imports.Of(list, kind)
			if !slices.Equal(of, modelOf(mixed(), kind)) {
				t.Errorf("Of %d: %+v", kind, of)
			}
			trial.Spoil(of, layer.Other)
			trial.Spoil(imports.Of(room[:len(list)], kind), layer.Other)
		}
	}
	all := make([]api.Import, 3)
	trial.Spoil(imports.Of(all, 0), layer.Other)
	if !slices.Equal(list, mixed()) || !slices.Equal(room, append(mixed(), mixed()...)) || !slices.Equal(all, make([]api.Import, 3)) {
		t.Errorf("the lists are %+v, %+v and %+v", list, room, all)
	}
}

// TestCalls has calls with errors in between.
func TestCalls(t *testing.T) {
	layer.TestCalls(t)
	for _, x := range samples() {
		for _, bad := range wrong() {
			imports.Of([]api.Import{bad.E}, bad.E.Kind)
			imports.Count([]api.Import{bad.E}, bad.E.Kind)
			imports.Place([]api.Import{bad.E}, bad.E.Kind, bad.E.Module, bad.E.Name)
		}
		checkOf(t, []api.Import{x.E}, x.E.Kind, []api.Import{x.E})
		checkPlace(t, []api.Import{x.E}, x.E.Kind, x.E.Module, x.E.Name, 0)
	}
}
