package exports_test

import (
	"math"
	"slices"
	"strings"
	"testing"

	"creel/api"
	"creel/exports"
	"creel/trial"
)

// The model is written from the chapters with numbers of its own, and asks no layer; most of it stands in package trial.

// modelFind is P11.3's first sentence.
func modelFind(list []api.Export, name string) (api.Export, bool) {
	at := slices.IndexFunc(list, func(x api.Export) bool { return x.Name == name })
	if at < 0 {
		return api.Export{}, false
	}
	return list[at], true
}

// modelTwice is P11.3's second sentence.
func modelTwice(list []api.Export) (string, bool) {
	for at, x := range list {
		if _, ok := modelFind(list[:at], x.Name); ok {
			return x.Name, true
		}
	}
	return "", false
}

// modelNames is P11.3's last sentence.
func modelNames(list []api.Export, kind byte) []string {
	if len(list) == 0 {
		return nil
	}
	rest := modelNames(list[1:], kind)
	if list[0].Kind != kind {
		return rest
	}
	return append([]string{list[0].Name}, rest...)
}

// Checks.

// told is an export with no more of its name than is worth telling.
func told(x api.Export) api.Export {
	x.Name = trial.Short(x.Name)
	return x
}

// checkFind checks the export that is found, or with false that none is.
func checkFind(t *testing.T, list []api.Export, name string, want api.Export, found bool) {
	t.Helper()
	if got, ok := exports.Find(list, name); got != want || ok != found {
		t.Errorf("Find(%q) in %d exports: %+v, %v, want %+v, %v", trial.Short(name), len(list), told(got), ok, told(want), found)
	}
}

// checkTwice checks the name that is there twice, or with false that none is.
func checkTwice(t *testing.T, list []api.Export, want string, found bool) {
	t.Helper()
	if got, ok := exports.Twice(list); got != want || ok != found {
		t.Errorf("Twice of %d exports: %q, %v, want %q, %v", len(list), trial.Short(got), ok, trial.Short(want), found)
	}
}

// checkNames checks the names of a kind; of many, it tells the first ones.
func checkNames(t *testing.T, list []api.Export, kind byte, want ...string) {
	t.Helper()
	if got := exports.Names(list, kind); !slices.Equal(got, want) {
		t.Errorf("Names of %d in %d exports: %d, %q, want %d, %q", kind, len(list), len(got), got[:min(len(got), 9)], len(want), want[:min(len(want), 9)])
	}
}

// checkList checks what is found in a list, for a name and a kind, against the model.
func checkList(t *testing.T, list []api.Export, name string, kind byte) {
	t.Helper()
	x, ok := modelFind(list, name)
	checkFind(t, list, name, x, ok)
	twice, ok := modelTwice(list)
	checkTwice(t, list, twice, ok)
	checkNames(t, list, kind, modelNames(list, kind)...)
}

const most = math.MaxUint32

// layer is what reads and writes.
var layer = trial.Layer[api.Export]{
	Right:  exports.Right,
	Put:    exports.Put,
	Get:    exports.Get,
	GetAll: exports.GetAll,
	PutAll: exports.PutAll,

	ModelRight: trial.ExportError,
	ModelPut:   trial.ExportBytes,
	ModelGet:   (*trial.Model).Export,

	Samples: samples,
	Wrong:   wrong,
	Broken:  broken(),
	Any:     anyExport,
	Other:   api.Export{Name: "other", Kind: 9, Index: 9},
	Same:    func(a, b api.Export) bool { return a == b },
	Tell:    func(x api.Export) any { return told(x) },
}

// get reads an export.
var get = layer.One()

func samples() []trial.Sample[api.Export] {
	long := strings.Repeat("n", 200)
	return []trial.Sample[api.Export]{
		{E: api.Export{Name: "f", Index: 3}, B: "\x01f\x00\x03"},
		{E: api.Export{}, B: "\x00\x00\x00"},
		{E: api.Export{Name: "table", Kind: 1}, B: "\x05table\x01\x00"},
		{E: api.Export{Name: "memory", Kind: 2}, B: "\x06memory\x02\x00"},
		{E: api.Export{Name: "g", Kind: 3, Index: 7}, B: "\x01g\x03\x07"},
		{E: api.Export{Kind: 1, Index: 1}, B: "\x00\x01\x01"},
		{E: api.Export{Name: "\x00\"\x7f\n", Index: 127}, B: "\x04\x00\"\x7f\n\x00\x7f"},
		{E: api.Export{Name: "\u20ac", Kind: 1, Index: 128}, B: "\x03\xe2\x82\xac\x01\x80\x01"},
		{E: api.Export{Index: 1<<31 - 1}, B: "\x00\x00\xff\xff\xff\xff\x07"},
		{E: api.Export{Index: 1 << 31}, B: "\x00\x00\x80\x80\x80\x80\x08"},
		{E: api.Export{Name: "f", Kind: 0, Index: most}, B: "\x01f\x00\xff\xff\xff\xff\x0f"},
		{E: api.Export{Name: "t", Kind: 1, Index: most}, B: "\x01t\x01\xff\xff\xff\xff\x0f"},
		{E: api.Export{Name: "m", Kind: 2, Index: most}, B: "\x01m\x02\xff\xff\xff\xff\x0f"},
		{E: api.Export{Name: "g", Kind: 3, Index: most}, B: "\x01g\x03\xff\xff\xff\xff\x0f"},
		{E: api.Export{Name: long[:127], Kind: 3}, B: "\x7f" + long[:127] + "\x03\x00"},
		{E: api.Export{Name: long[:128], Kind: 2}, B: "\x80\x01" + long[:128] + "\x02\x00"},
		{E: api.Export{Name: long, Kind: 3, Index: most}, B: "\xc8\x01" + long + "\x03\xff\xff\xff\xff\x0f"},
	}
}

// wrong are exports that may not be, one for each way to be so, and with two errors.
func wrong() []trial.Bad[api.Export] {
	long := strings.Repeat("n", 201)
	return []trial.Bad[api.Export]{
		{E: api.Export{Name: long}, Why: 13},
		{E: api.Export{Name: "\xff", Index: 3}, Why: 4},
		{E: api.Export{Kind: 4}, Why: 43},
		{E: api.Export{Name: "f", Kind: 255, Index: most}, Why: 43},
		// The name counts ahead of the kind.
		{E: api.Export{Name: long, Kind: 4}, Why: 13},
		{E: api.Export{Name: "\xff", Kind: 4}, Why: 4},
		{E: api.Export{Name: "\xff" + long, Kind: 255}, Why: 13},
		{E: api.Export{Name: "a\x80", Kind: 255, Index: most}, Why: 4},
	}
}

// broken has every byte that is wrong as a kind, and names and numbers that are, at each of their places.
func broken() []trial.Broken {
	return slices.Concat(
		trial.BrokenNames(""),
		trial.BrokenBytes(trial.UpTo(3, 43), "\x00", "\x01f", "\xc8\x01"+strings.Repeat("n", 200)),
		trial.BrokenNumbers("\x00\x00", "\x01f\x00", "\x01t\x01", "\x01m\x02", "\x01g\x03"),
	)
}

// P11.1

func TestEveryKind(t *testing.T) {
	for kind := range 256 {
		want := api.Errno(0)
		if kind > 3 {
			want = 43
		}
		for _, name := range []string{"", "f", strings.Repeat("n", 200)} {
			for _, index := range []uint32{0, 1, most} {
				layer.Judges(t, api.Export{Name: name, Kind: byte(kind), Index: index}, want)
			}
		}
	}
}

// TestNames has them with kinds that there are and that there are not: the name counts first.
func TestNames(t *testing.T) {
	for _, n := range trial.Names() {
		for kind := range byte(4) {
			layer.Judges(t, api.Export{Name: n.S, Kind: kind, Index: 3}, n.Why)
		}
		for _, kind := range []byte{4, 5, 128, 255} {
			want := n.Why
			if want == 0 {
				want = 43
			}
			layer.Judges(t, api.Export{Name: n.S, Kind: kind, Index: 3}, want)
		}
	}
}

// TestIndices has every number of bytes that an index can have, for each kind.
func TestIndices(t *testing.T) {
	for kind := range byte(4) {
		k := string([]byte{kind})
		for _, x := range []struct {
			index uint32
			b     string
		}{
			{0, "\x00"},
			{1, "\x01"},
			{127, "\x7f"},
			{128, "\x80\x01"},
			{16383, "\xff\x7f"},
			{16384, "\x80\x80\x01"},
			{1<<21 - 1, "\xff\xff\x7f"},
			{1 << 21, "\x80\x80\x80\x01"},
			{1<<28 - 1, "\xff\xff\xff\x7f"},
			{1 << 28, "\x80\x80\x80\x80\x01"},
			{1<<31 - 1, "\xff\xff\xff\xff\x07"},
			{1 << 31, "\x80\x80\x80\x80\x08"},
			{most - 1, "\xfe\xff\xff\xff\x0f"},
			{most, "\xff\xff\xff\xff\x0f"},
		} {
			layer.Writes(t, api.Export{Kind: kind, Index: x.index}, "\x00"+k+x.b)
			layer.Writes(t, api.Export{Name: "f", Kind: kind, Index: x.index}, "\x01f"+k+x.b)
			get.Takes(t, "\x01f"+k+x.b, api.Export{Name: "f", Kind: kind, Index: x.index}, 3+len(x.b))
		}
	}
}

func TestPut(t *testing.T) { layer.TestPut(t) }

// TestExample is the chapter's.
func TestExample(t *testing.T) {
	x := api.Export{Name: "f", Kind: api.KindFunc, Index: 3}
	layer.Writes(t, x, "\x01\x66\x00\x03")
	get.Takes(t, "\x01\x66\x00\x03", x, 4)
}

// TestAllFields has all kinds, with the values at the edges of the other fields.
func TestAllFields(t *testing.T) {
	for _, n := range trial.Names() {
		for kind := range 256 {
			for _, index := range []uint32{0, 1, 128, most} {
				layer.AgreesOn(t, api.Export{Name: n.S, Kind: byte(kind), Index: index})
			}
		}
	}
}

// P11.2

func TestGet(t *testing.T) { layer.TestGet(t) }

func TestGetInTurn(t *testing.T) { layer.TestGetInTurn(t) }

func TestBroken(t *testing.T) { layer.TestBroken(t) }

// TestCutOff cuts exports of each kind off at every place: the error is at the part that is not whole.
func TestCutOff(t *testing.T) {
	for kind := range 4 {
		k := string([]byte{byte(kind)})
		layer.TestCutOff(t, "\x00"+k+"\x00", []int{0, 1, 2})
		layer.TestCutOff(t, "\x01f"+k+"\x03", []int{0, 1, 2, 3})
		layer.TestCutOff(t, "\x03env"+k+"\xff\xff\xff\xff\x0f", []int{0, 1, 4, 5})
		layer.TestCutOff(t, "\x83\x00\xe2\x82\xac"+k+"\x85\x80\x00", []int{0, 2, 5, 6})
		layer.TestCutOff(t, "\x82\x80\x80\x80\x00ab"+k+"\x80\x80\x80\x80\x00", []int{0, 5, 7, 8})
		layer.TestCutOff(t, "\xc8\x01"+strings.Repeat("n", 200)+k+"\x80\x01", []int{0, 2, 202, 203})
	}
}

// TestLongerNumbers has numbers with more bytes than they need.
func TestLongerNumbers(t *testing.T) {
	get.Takes(t, "\x81\x00f\x00\x83\x00", api.Export{Name: "f", Index: 3}, 6)
	get.Takes(t, "\x83\x80\x80\x80\x00env\x03\x85\x80\x80\x80\x00\x01", api.Export{Name: "env", Kind: 3, Index: 5}, 14)
	get.Takes(t, "\x80\x80\x00\x02\x80\x80\x80\x80\x00", api.Export{Kind: 2}, 9)
}

// TestEveryByteChanged changes the bytes of exports, one at a time, to every value.
func TestEveryByteChanged(t *testing.T) {
	for _, good := range []string{
		"\x01f\x00\x03",
		"\x00\x01\x80\x01",
		"\x05table\x01\x00\x00",
		"\x02\xc3\xa9\x02\xff\xff\xff\xff\x0f",
		"\x81\x00g\x03\x83\x80\x00",
	} {
		layer.TestBytes(t, good)
	}
}

// TestAllShortExports tries the strings of the bytes that mean something, alone and behind a name.
func TestAllShortExports(t *testing.T) {
	layer.TestWords(t, "\x00\x01\x02\x03\x04\x7f\x80\xff", 5, "\x01f")
}

func TestGetAll(t *testing.T) { layer.TestGetAll(t) }

func TestGetAllOfAnotherNumber(t *testing.T) { layer.TestGetAllOfAnotherNumber(t) }

// many are exports that differ from each other in all fields.
func many(n int) []api.Export {
	list := make([]api.Export, n)
	for at := range list {
		list[at] = api.Export{Name: "n" + string(rune(0x4e00+at)), Kind: byte(at % 4), Index: uint32(at)}
	}
	return list
}

// TestMostExports has 10000 of them and one more.
func TestMostExports(t *testing.T) { layer.TestMost(t, many(10001)) }

func TestPutAll(t *testing.T) { layer.TestPutAll(t) }

func TestPutAllOfWrongOnes(t *testing.T) { layer.TestPutAllOfWrongOnes(t) }

// TestListsMayHaveNamesTwice: neither GetAll nor PutAll asks.
func TestListsMayHaveNamesTwice(t *testing.T) {
	f, g := api.Export{Name: "f", Index: 3}, api.Export{Name: "f", Kind: 3}
	layer.WritesAll(t, []api.Export{f, f, g}, "\x03\x01f\x00\x03\x01f\x00\x03\x01f\x03\x00", 0)
	layer.All().Takes(t, "\x03\x01f\x00\x03\x01f\x00\x03\x01f\x03\x00", []api.Export{f, f, g}, 13)
}

// P11.3

// mixed has all kinds several times, some that there are not, and names that come twice and more.
func mixed() []api.Export {
	return []api.Export{
		{Name: "f", Index: 3},
		{Name: "memory", Kind: 2},
		{Name: "g", Kind: 3, Index: 1},
		{Name: "table", Kind: 1},
		{Name: "g", Index: 4},
		{Name: "f", Kind: 3, Index: 5},
		{Name: "", Kind: 2, Index: 6},
		{Name: "h", Kind: 1, Index: most},
		{Name: "", Index: 7},
		{Name: "f", Index: 8},
		{Name: "x", Kind: 200, Index: 9},
		{Name: "\xff", Kind: 3, Index: 10},
		{Name: "g", Kind: 3, Index: 11},
		{Name: "h", Kind: 255, Index: 12},
	}
}

func TestFind(t *testing.T) {
	list := mixed()
	checkFind(t, list, "f", list[0], true) // the first of three, which have other kinds and indices
	checkFind(t, list, "memory", list[1], true)
	checkFind(t, list, "g", list[2], true)
	checkFind(t, list, "table", list[3], true)
	checkFind(t, list, "", list[6], true)
	checkFind(t, list, "h", list[7], true)
	checkFind(t, list, "x", list[10], true)
	checkFind(t, list, "\xff", list[11], true)
	checkFind(t, list[1:], "f", list[5], true)
	checkFind(t, list[6:], "f", list[9], true)
	checkFind(t, list[7:], "", list[8], true)
	checkFind(t, list[8:], "h", list[13], true)
	checkFind(t, list[:1], "f", list[0], true)
	for _, name := range []string{"none", "F", "ff", "f ", " f", "f\x00", "memor", "emory", "memory2", "\x00", "\xfe"} {
		checkFind(t, list, name, api.Export{}, false)
	}
	checkFind(t, list[:6], "", api.Export{}, false)
	checkFind(t, list[10:], "f", api.Export{}, false)
	for _, name := range []string{"", "f", "memory", strings.Repeat("n", 1<<20)} {
		checkFind(t, nil, name, api.Export{}, false)
		checkFind(t, []api.Export{}, name, api.Export{}, false)
		checkFind(t, []api.Export{{Name: "other"}}, name, api.Export{}, false)
	}
	// A zero Export that is there.
	checkFind(t, []api.Export{{}}, "", api.Export{}, true)
	all := many(20000)
	checkFind(t, all, all[19999].Name, all[19999], true)
	checkFind(t, all, "n", api.Export{}, false)
}

// named are exports with some names, in turn of each kind.
func named(names ...string) []api.Export {
	var list []api.Export
	for at, name := range names {
		list = append(list, api.Export{Name: name, Kind: byte(at % 4), Index: uint32(at)})
	}
	return list
}

func TestTwice(t *testing.T) {
	for _, x := range []struct {
		names []string
		want  string
		found bool
	}{
		{nil, "", false},
		{[]string{}, "", false},
		{[]string{"f"}, "", false},
		{[]string{""}, "", false},
		{[]string{"f", "g"}, "", false},
		{[]string{"", "f", "g", "h"}, "", false},
		{[]string{"f", "F", "ff", "f ", " f", "f\x00", "\xff", "\xfe"}, "", false},
		{[]string{"f", "f"}, "f", true},
		{[]string{"f", "f", "f"}, "f", true},
		{[]string{"f", "g", "f"}, "f", true},
		{[]string{"g", "f", "h", "f"}, "f", true},
		{[]string{"f", "g", "f", "h", "f"}, "f", true},
		{[]string{"\xff", "\xff"}, "\xff", true},
		// Two names that are there twice: the one that is repeated first counts, not the one that is there first.
		{[]string{"a", "b", "b", "a"}, "b", true},
		{[]string{"b", "a", "a", "b"}, "a", true},
		{[]string{"a", "b", "a", "b"}, "a", true},
		{[]string{"b", "a", "b", "a"}, "b", true},
		{[]string{"a", "a", "b", "b"}, "a", true},
		{[]string{"b", "b", "a", "a"}, "b", true},
		{[]string{"a", "b", "c", "c", "b", "a"}, "c", true},
		// The empty name.
		{[]string{"", ""}, "", true},
		{[]string{"", "f", ""}, "", true},
		{[]string{"f", "", ""}, "", true},
		{[]string{"f", "", "", "f"}, "", true},
		{[]string{"", "f", "f", ""}, "f", true},
		{[]string{"", "f", "f"}, "f", true},
	} {
		checkTwice(t, named(x.names...), x.want, x.found)
	}
	for kind := range 256 {
		one := api.Export{Name: "f", Kind: byte(kind)}
		checkTwice(t, []api.Export{one, one}, "f", true)
		// Whatever the kinds and the indices are.
		checkTwice(t, []api.Export{one, {Name: "f", Kind: byte(kind) + 1}}, "f", true)
		checkTwice(t, []api.Export{one, {Name: "f", Kind: byte(kind), Index: most}}, "f", true)
		checkTwice(t, []api.Export{one, {Name: "g", Kind: byte(kind)}}, "", false)
	}
	all := many(20000)
	checkTwice(t, all, "", false)
	for _, at := range []int{0, 1, 9999, 19999} {
		checkTwice(t, append(many(20000), all[at]), all[at].Name, true)
	}
	long := strings.Repeat("n", 1<<20)
	checkTwice(t, named(long, long[1:], long), long, true)
	checkTwice(t, named(long, long[1:]), "", false)
}

func TestKindNames(t *testing.T) {
	list := mixed()
	checkNames(t, list, 0, "f", "g", "", "f")
	checkNames(t, list, 1, "table", "h")
	checkNames(t, list, 2, "memory", "")
	checkNames(t, list, 3, "g", "f", "\xff", "g")
	checkNames(t, list, 200, "x")
	checkNames(t, list, 255, "h")
	for kind := 4; kind < 255; kind++ {
		if kind != 200 {
			checkNames(t, list, byte(kind))
		}
	}
	for kind := range 256 {
		k := byte(kind)
		checkNames(t, nil, k)
		checkNames(t, []api.Export{}, k)
		checkNames(t, []api.Export{{Name: "f", Kind: k}}, k, "f")
		checkNames(t, []api.Export{{Name: "f", Kind: k}, {Name: "f", Kind: k}}, k, "f", "f")
		checkNames(t, []api.Export{{Name: "b", Kind: k}, {Name: "c", Kind: k + 1}, {Name: "a", Kind: k}, {Name: "b", Kind: k}}, k, "b", "a", "b")
		// A kind that no export has.
		checkNames(t, []api.Export{{Name: "f", Kind: k + 1}, {Name: "g", Kind: k + 128}}, k)
	}
	checkNames(t, many(20000), 1, modelNames(many(20000), 1)...)
}

// TestFindEverything asks for all names and kinds in all lists of up to four exports with three names and two kinds.
func TestFindEverything(t *testing.T) {
	names := []string{"", "a", "b"}
	for n := range 5 {
		trial.Words([]byte{0, 1, 2, 3, 4, 5}, n, func(w []byte) {
			var list []api.Export
			for at, x := range w {
				list = append(list, api.Export{Name: names[x%3], Kind: x / 3, Index: uint32(at)})
			}
			for kind := range byte(3) {
				for _, name := range []string{"", "a", "b", "c"} {
					checkList(t, list, name, kind)
				}
			}
		})
	}
}

// P11.4

// anyExport is one that may be, by chance.
func anyExport(next func(n int) int) api.Export {
	names := []string{"", "f", "env", "__wasm_call_ctors", "\u20ac\x00", strings.Repeat("n", 127), strings.Repeat("n", 128), strings.Repeat("n", 200)}
	numbers := []uint32{0, 1, 127, 128, 16383, 16384, 65536, 1<<31 - 1, 1 << 31, most}
	return api.Export{Name: names[next(len(names))], Kind: byte(next(4)), Index: numbers[next(len(numbers))]}
}

func TestGetInvertsPut(t *testing.T) {
	layer.TestInverse(t)
	layer.ComeBack(t, many(10000))
}

// P1

func TestManyBytes(t *testing.T) { layer.TestManyBytes(t) }

// TestAnything writes and finds what comes by chance.
func TestAnything(t *testing.T) {
	next := trial.Chance(7)
	for range 6000 {
		list := make([]api.Export, next(6))
		for at := range list {
			list[at] = anyExport(next)
			switch next(8) {
			case 0:
				list[at].Kind = byte(next(256))
			case 1:
				list[at].Name = trial.Names()[next(len(trial.Names()))].S
			case 2:
				list[at].Name += list[0].Name
			}
			layer.AgreesOn(t, list[at])
		}
		layer.AgreesOnAll(t, list)
		checkList(t, list, anyExport(next).Name, byte(next(5)))
	}
}

func TestLongNames(t *testing.T) {
	long := strings.Repeat("n", 1<<20)
	layer.Judges(t, api.Export{Name: long}, 13)
	layer.Judges(t, api.Export{Name: long + "\xff", Kind: 4}, 13)
	checkNames(t, []api.Export{{Name: long}}, 0, long)
}

// P2

// TestArguments looks at bytes and lists, and at what is behind them that there is room for.
func TestArguments(t *testing.T) {
	layer.TestArguments(t)
	list := mixed()
	for n := range len(list) + 1 {
		exports.Twice(list[:n])
		for kind := range byte(5) {
			exports.Names(list[:n], kind)
		}
		for _, name := range []string{"", "f", "h", "none"} {
			exports.Find(list[:n], name)
		}
	}
	if !slices.Equal(list, mixed()) {
		t.Errorf("the list is %+v", list)
	}
}

// TestKept spoils what was handed in: the results stay, and the next ones are those of what it is then.
func TestKept(t *testing.T) {
	layer.TestKept(t)
	list := mixed()
	names := exports.Names(list, 0)
	x, _ := exports.Find(list, "f")
	twice, _ := exports.Twice(list)
	trial.Spoil(list, layer.Other)
	if !slices.Equal(names, []string{"f", "g", "", "f"}) || x != mixed()[0] || twice != "g" {
		t.Errorf("Names: %q, Find: %+v, Twice: %q", names, x, twice)
	}
	checkFind(t, list, "f", api.Export{}, false)
	checkFind(t, list, "other", layer.Other, true)
	checkTwice(t, list, "other", true)
	checkTwice(t, list[:1], "", false)
	checkNames(t, list, 0)
}

// TestNew spoils results: neither the arguments nor the results of other calls change.
func TestNew(t *testing.T) {
	layer.TestNew(t)
	list := mixed()
	for kind := range byte(5) {
		for range 2 {
			names := exports.Names(list, kind)
			if !slices.Equal(names, modelNames(mixed(), kind)) {
				t.Errorf("Names of %d: %q", kind, names)
			}
			trial.Spoil(names, "other")
		}
	}
	if !slices.Equal(list, mixed()) {
		t.Errorf("the list is %+v", list)
	}
}

// TestCalls has calls with errors in between, and with names that come in other lists, too.
func TestCalls(t *testing.T) {
	layer.TestCalls(t)
	for _, x := range samples() {
		for _, bad := range wrong() {
			exports.Twice([]api.Export{x.E, bad.E})
			exports.Find([]api.Export{bad.E}, x.E.Name)
			exports.Names([]api.Export{bad.E}, x.E.Kind)
		}
		one := []api.Export{x.E}
		checkTwice(t, one, "", false)
		checkFind(t, one, x.E.Name, x.E, true)
		checkNames(t, one, x.E.Kind, x.E.Name)
	}
}
