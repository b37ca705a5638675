package module_test

import (
	"bytes"
	"math"
	"slices"
	"strings"
	"testing"

	"creel/abort"
	"creel/api"
	"creel/module"
	"creel/trial"
)

// The model stands in package trial: it is written from the chapters with numbers of its own, and asks no layer.

const (
	head = "\x00asm\x01\x00\x00\x00"
	name = "dylink.0"
	most = 1 << 22 // bytes of a module
)

// More than there may be: bytes of a segment or a module, functions of a segment, groups of locals, instructions. Nobody changes these.
var (
	tooLong   = strings.Repeat("n", most+1)
	tooMany   = make([]uint32, 10001)
	tooMuch   = make([]api.Local, 10001)
	tooLarge  = trial.Plains(strings.Repeat("\x01", 20000) + "\x0b")
	manyTypes = strings.Repeat("\x7f", 1001)
)

// Checks.

// few are what of a long list is worth telling.
func few[E any](list []E) []E { return list[:min(len(list), 3)] }

// told is what of a module is worth telling.
type told struct {
	counts [10]int
	start  int
	dylink bool
	funcs  []uint32
	types  []api.FuncType
}

func tell(m api.Module) told {
	return told{
		counts: [10]int{len(m.Types), len(m.Imports), len(m.Funcs), len(m.Tables), len(m.Mems), len(m.Globals), len(m.Exports), len(m.Elems), len(m.Codes), len(m.Datas)},
		start:  m.Start,
		dylink: m.Dylink.Has,
		funcs:  few(m.Funcs),
		types:  few(m.Types),
	}
}

// end is what of some bytes is worth telling, if there are more: the last ones.
func end(b string) string { return b[max(len(b)-60, 0):] }

// takes checks that bytes are a module.
func takes(t *testing.T, b string, want api.Module) {
	t.Helper()
	if got, stop := module.Decode([]byte(b)); !trial.SameModule(got, want) || stop != (abort.Stop{}) {
		t.Errorf("Decode of .. % x: %+v, %v, want %+v", end(b), tell(got), stop, tell(want))
	}
}

// refuses checks that bytes are none, and why, and where.
func refuses(t *testing.T, b string, why api.Errno, at int) {
	t.Helper()
	if got, stop := module.Decode([]byte(b)); !trial.SameModule(got, api.Module{}) || stop != (abort.Stop{Why: why, At: at}) {
		t.Errorf("Decode of .. % x: %+v, %v, want %d at %d of %d", end(b), tell(got), stop, why, at, len(b))
	}
}

// agrees checks that bytes are taken or refused as the model says.
func agrees(t *testing.T, b string) {
	t.Helper()
	m := trial.NewModel(b)
	if want := m.Module(); m.Failed() {
		refuses(t, b, m.Stop.Why, m.Stop.At)
	} else {
		takes(t, b, want)
	}
}

// writes checks the bytes of a module, or its error and that there are none.
func writes(t *testing.T, m api.Module, want string, e api.Errno) {
	t.Helper()
	if b, got := module.Encode(m); string(b) != want || got != e {
		t.Errorf("Encode of %+v: % x (%d bytes), %d, want % x (%d bytes), %d", tell(m), trial.Short(b), len(b), got, trial.Short(want), len(want), e)
	}
}

// fails checks the error of a module.
func fails(t *testing.T, m api.Module, e api.Errno) {
	t.Helper()
	writes(t, m, "", e)
}

// agreesOn checks that a module has the bytes, or the error, that the model says.
func agreesOn(t *testing.T, m api.Module) {
	t.Helper()
	b, e := trial.ModuleBytes(m)
	writes(t, m, b, e)
}

// What the tests are made of.

// part is a list that a module may have.
type part struct {
	id     byte
	b      []string                              // the bytes of some elements
	give   func(m *api.Module, places ...int)    // the module gets those of some places, behind what it has
	wrong  []api.Errno                           // the errors of others
	spoil  func(m *api.Module, place, which int) // puts one of these at a place
	drop   func(m *api.Module)                   // takes all away
	broken []trial.Broken                        // bytes that begin with no element
}

func partOf[E any](id byte, field func(m *api.Module) *[]E, good []trial.Sample[E], bad []trial.Bad[E], broken []trial.Broken) part {
	p := part{id: id, broken: broken}
	for _, x := range good {
		p.b = append(p.b, x.B)
	}
	for _, x := range bad {
		p.wrong = append(p.wrong, x.Why)
	}
	p.give = func(m *api.Module, places ...int) {
		list := field(m)
		for _, at := range places {
			*list = append(*list, good[at].E)
		}
	}
	p.drop = func(m *api.Module) { *field(m) = nil }
	p.spoil = func(m *api.Module, place, which int) { (*field(m))[place] = bad[which].E }
	return p
}

// parts are all lists, in the order of their sections; new ones in each call.
func parts() []part {
	return []part{typesPart(), importsPart(), funcsPart(), tablesPart(), memsPart(), globalsPart(), exportsPart(), elemsPart(), codesPart(), datasPart()}
}

func typesPart() part {
	return partOf(1, func(m *api.Module) *[]api.FuncType { return &m.Types },
		[]trial.Sample[api.FuncType]{
			{E: api.FuncType{}, B: "\x60\x00\x00"},
			{E: api.FuncType{Params: "\x7f"}, B: "\x60\x01\x7f\x00"},
			{E: api.FuncType{Params: "\x7f\x7e", Results: "\x7e"}, B: "\x60\x02\x7f\x7e\x01\x7e"},
		},
		[]trial.Bad[api.FuncType]{
			{E: api.FuncType{Params: manyTypes}, Why: 29},
			{E: api.FuncType{Results: "\x7f\x7f"}, Why: 29},
			{E: api.FuncType{Params: "\x7d", Results: "\x7f\x00"}, Why: 29},
			{E: api.FuncType{Params: "\x7f\x7d", Results: "\x70"}, Why: 8},
			{E: api.FuncType{Params: "\x40", Results: "\x7d"}, Why: 7},
			{E: api.FuncType{Results: "\x7c"}, Why: 8},
		},
		[]trial.Broken{
			{B: "\x61\x00\x00", Why: 7, At: 0},
			{B: "\x7f", Why: 7, At: 0},
			{B: "\x60\x01\x7d\x00", Why: 8, At: 2},
			{B: "\x60\x02\x7f\x70\x00", Why: 7, At: 3},
			{B: "\x60\x00\x01\x7c", Why: 8, At: 3},
			{B: "\x60\x00\x02\x7f\x7f", Why: 29, At: 0},
			{B: "\x60\xe9\x07" + manyTypes + "\x00", Why: 29, At: 0},
			{B: "\x60\x91\x4e", Why: 29, At: 1},
			{B: "\x60\xff\xff\xff\xff\x1f", Why: 3, At: 1},
			{B: "\x60\x00\x80\x80\x80\x80\x80\x00", Why: 3, At: 2},
		})
}

func importsPart() part {
	long := strings.Repeat("n", 201)
	return partOf(2, func(m *api.Module) *[]api.Import { return &m.Imports },
		[]trial.Sample[api.Import]{
			{E: api.Import{Module: "env", Name: "f", Type: 5}, B: "\x03env\x01f\x00\x05"},
			{E: api.Import{Kind: 1, Limits: api.Limits{Min: 1}}, B: "\x00\x00\x01\x70\x00\x01"},
			{E: api.Import{Module: "a", Kind: 2, Limits: api.Limits{Min: 2, Max: 1, Bound: true}}, B: "\x01a\x00\x02\x01\x02\x01"},
			{E: api.Import{Name: "b", Kind: 3, Global: api.GlobalType{T: 0x7e, Mut: true}}, B: "\x00\x01b\x03\x7e\x01"},
		},
		[]trial.Bad[api.Import]{
			{E: api.Import{Module: "\xff", Name: long, Kind: 4}, Why: 4},
			{E: api.Import{Module: long, Name: "\xff"}, Why: 13},
			{E: api.Import{Name: "\xff", Kind: 4}, Why: 4},
			{E: api.Import{Kind: 4, Type: 1}, Why: 43},
			{E: api.Import{Kind: 3, Type: 1}, Why: 1},
			{E: api.Import{Kind: 2, Limits: api.Limits{Max: 1}}, Why: 1},
			{E: api.Import{Kind: 3}, Why: 7},
			{E: api.Import{Kind: 3, Global: api.GlobalType{T: 0x7d}}, Why: 8},
		},
		[]trial.Broken{
			{B: "\x01\xff", Why: 4, At: 1},
			{B: "\x00\xc9\x01", Why: 13, At: 1},
			{B: "\x00\x00\x04", Why: 43, At: 2},
			{B: "\x00\x00\x00\x80\x80\x80\x80\x10", Why: 3, At: 3},
			{B: "\x00\x00\x01\x6f", Why: 7, At: 3},
			{B: "\x00\x00\x01\x70\x02", Why: 10, At: 4},
			{B: "\x00\x00\x02\x02", Why: 10, At: 3},
			{B: "\x00\x00\x03\x7d", Why: 8, At: 3},
			{B: "\x00\x00\x03\x7f\x02", Why: 10, At: 4},
		})
}

func funcsPart() part {
	return partOf(3, func(m *api.Module) *[]uint32 { return &m.Funcs },
		[]trial.Sample[uint32]{{E: 0, B: "\x00"}, {E: 300, B: "\xac\x02"}, {E: math.MaxUint32, B: "\xff\xff\xff\xff\x0f"}},
		nil,
		trial.BrokenNumbers(""))
}

func tablesPart() part {
	return partOf(4, func(m *api.Module) *[]api.Limits { return &m.Tables },
		[]trial.Sample[api.Limits]{
			{E: api.Limits{Min: 1}, B: "\x70\x00\x01"},
			{E: api.Limits{Min: 300, Max: 2, Bound: true}, B: "\x70\x01\xac\x02\x02"},
			{E: api.Limits{Bound: true}, B: "\x70\x01\x00\x00"},
		},
		wrongLimits(),
		[]trial.Broken{
			{B: "\x6f\x00\x00", Why: 7, At: 0},
			{B: "\x00\x00", Why: 7, At: 0},
			{B: "\x70\x02", Why: 10, At: 1},
			{B: "\x70\x00\x80\x80\x80\x80\x10", Why: 3, At: 2},
			{B: "\x70\x01\x00\x80\x80\x80\x80\x80\x00", Why: 3, At: 3},
		})
}

func memsPart() part {
	return partOf(5, func(m *api.Module) *[]api.Limits { return &m.Mems },
		[]trial.Sample[api.Limits]{
			{E: api.Limits{Min: 1}, B: "\x00\x01"},
			{E: api.Limits{Min: 1, Max: 65536, Bound: true}, B: "\x01\x01\x80\x80\x04"},
			{E: api.Limits{}, B: "\x00\x00"},
		},
		wrongLimits(),
		[]trial.Broken{
			{B: "\x02", Why: 10, At: 0},
			{B: "\x70\x00\x00", Why: 10, At: 0},
			{B: "\x00\xff\xff\xff\xff\x1f", Why: 3, At: 1},
			{B: "\x01\x00\x80\x80\x80\x80\x80\x00", Why: 3, At: 2},
		})
}

func wrongLimits() []trial.Bad[api.Limits] {
	return []trial.Bad[api.Limits]{
		{E: api.Limits{Max: 1}, Why: 1},
		{E: api.Limits{Min: 1, Max: 1}, Why: 1},
		{E: api.Limits{Min: 5, Max: math.MaxUint32}, Why: 1},
	}
}

func globalsPart() part {
	return partOf(6, func(m *api.Module) *[]api.Global { return &m.Globals },
		[]trial.Sample[api.Global]{
			{E: api.Global{Type: api.GlobalType{T: 0x7f, Mut: true}, Init: trial.I32(5)}, B: "\x7f\x01\x41\x05\x0b"},
			{E: api.Global{Type: api.GlobalType{T: 0x7e}, Init: trial.I64(math.MaxUint64)}, B: "\x7e\x00\x42\x7f\x0b"},
			{E: api.Global{Type: api.GlobalType{T: 0x7f}, Init: trial.Imported(300)}, B: "\x7f\x00\x23\xac\x02\x0b"},
		},
		[]trial.Bad[api.Global]{
			{E: api.Global{}, Why: 7},
			{E: api.Global{Type: api.GlobalType{T: 0x7c}}, Why: 8},
			{E: api.Global{Type: api.GlobalType{T: 0x7f}}, Why: 12},
			{E: api.Global{Type: api.GlobalType{T: 0x7f}, Init: api.Instr{Op: 0x43}}, Why: 8},
			{E: api.Global{Type: api.GlobalType{T: 0x7f}, Init: trial.I32(1 << 32)}, Why: 1},
			{E: api.Global{Type: api.GlobalType{T: 0x7f}, Init: api.Instr{Op: 6}}, Why: 9},
		},
		[]trial.Broken{
			{B: "\x7d\x00", Why: 8, At: 0},
			{B: "\x40\x00", Why: 7, At: 0},
			{B: "\x7f\x02", Why: 10, At: 1},
			{B: "\x7f\x00\x43", Why: 8, At: 2},
			{B: "\x7f\x00\x06", Why: 9, At: 2},
			{B: "\x7f\x00\x01", Why: 12, At: 2},
			{B: "\x7f\x00\x41\x05\x01", Why: 12, At: 4},
			{B: "\x7f\x00\x41\xff\xff\xff\xff\x0f", Why: 3, At: 3},
		})
}

func exportsPart() part {
	return partOf(7, func(m *api.Module) *[]api.Export { return &m.Exports },
		[]trial.Sample[api.Export]{
			{E: api.Export{Name: "f", Index: 3}, B: "\x01f\x00\x03"},
			{E: api.Export{Kind: 3, Index: 300}, B: "\x00\x03\xac\x02"},
			{E: api.Export{Name: "\u20ac", Kind: 1}, B: "\x03\xe2\x82\xac\x01\x00"},
		},
		[]trial.Bad[api.Export]{
			{E: api.Export{Name: "\xff", Kind: 4}, Why: 4},
			{E: api.Export{Name: strings.Repeat("n", 201)}, Why: 13},
			{E: api.Export{Name: "f", Kind: 4}, Why: 43},
		},
		[]trial.Broken{
			{B: "\x01\xff", Why: 4, At: 1},
			{B: "\xc9\x01", Why: 13, At: 0},
			{B: "\x00\x04", Why: 43, At: 1},
			{B: "\x00\x00\xff\xff\xff\xff\x1f", Why: 3, At: 2},
		})
}

func elemsPart() part {
	return partOf(9, func(m *api.Module) *[]api.Elem { return &m.Elems },
		[]trial.Sample[api.Elem]{
			{E: api.Elem{Offset: trial.I32(5), Funcs: []uint32{1, 2}}, B: "\x00\x41\x05\x0b\x02\x01\x02"},
			{E: api.Elem{Offset: trial.Imported(1)}, B: "\x00\x23\x01\x0b\x00"},
			{E: api.Elem{Offset: trial.I32(math.MaxUint32), Funcs: []uint32{300}}, B: "\x00\x41\x7f\x0b\x01\xac\x02"},
		},
		[]trial.Bad[api.Elem]{
			{E: api.Elem{Funcs: tooMany}, Why: 29},
			{E: api.Elem{Funcs: tooMany[:10000]}, Why: 12},
			{E: api.Elem{Offset: api.Instr{Op: 0x44}}, Why: 8},
			{E: api.Elem{Offset: trial.Imported(1 << 32)}, Why: 1},
		},
		[]trial.Broken{
			{B: "\x01", Why: 10, At: 0},
			{B: "\x00\x44", Why: 8, At: 1},
			{B: "\x00\x0b", Why: 12, At: 1},
			{B: "\x00\x41\x05\x0b\x91\x4e", Why: 29, At: 4},
			{B: "\x00\x41\x05\x0b\x01\x80\x80\x80\x80\x10", Why: 3, At: 5},
		})
}

func codesPart() part {
	table := api.Instr{Op: 0x0e, A: 1, L: []uint32{0, 1}}
	return partOf(10, func(m *api.Module) *[]api.Code { return &m.Codes },
		[]trial.Sample[api.Code]{
			{E: api.Code{Body: trial.Plains("\x0b")}, B: "\x02\x00\x0b"},
			{E: api.Code{Locals: []api.Local{{N: 3, T: 0x7f}}, Body: trial.Plains("\x01\x0b")}, B: "\x05\x01\x03\x7f\x01\x0b"},
			{E: api.Code{Locals: []api.Local{{N: 1, T: 0x7e}, {N: 0, T: 0x7f}}, Body: slices.Concat(trial.Plains("\x02"), []api.Instr{table}, trial.Plains("\x0b\x0b"))}, B: "\x0e\x02\x01\x7e\x00\x7f\x02\x40\x0e\x02\x00\x01\x01\x0b\x0b"},
		},
		[]trial.Bad[api.Code]{
			{E: api.Code{}, Why: 30},
			{E: api.Code{Locals: tooMuch}, Why: 29},
			{E: api.Code{Locals: []api.Local{{N: 1001, T: 0x7d}}}, Why: 23},
			{E: api.Code{Locals: []api.Local{{N: 1, T: 0x7d}}}, Why: 8},
			{E: api.Code{Body: tooLarge}, Why: 29},
			{E: api.Code{Body: trial.Plains("\x92\x0b")}, Why: 8},
			{E: api.Code{Body: []api.Instr{{Op: 1, A: 1}, {Op: 0x0b}}}, Why: 1},
		},
		[]trial.Broken{
			{B: "\x02\x00\x92", Why: 8, At: 2},
			{B: "\x02\x00\x06", Why: 9, At: 2},
			{B: "\x04\x01\x01\x7d\x0b", Why: 8, At: 3},
			{B: "\x04\x01\x01\x40\x0b", Why: 7, At: 3},
			{B: "\x05\x01\xe9\x07\x7f\x0b", Why: 23, At: 1},
			{B: "\x03\x00\x0b\x0b", Why: 14, At: 3},
			{B: "\x03\x00\x05\x0b", Why: 30, At: 2},
			{B: "\x02\x00\x01", Why: 2, At: 3},
			{B: "\xff\xff\xff\xff\x1f", Why: 3, At: 0},
			{B: "\xff\xff\xff\xff\x0f", Why: 2, At: 5},
		})
}

func datasPart() part {
	return partOf(11, func(m *api.Module) *[]api.Data { return &m.Datas },
		[]trial.Sample[api.Data]{
			{E: api.Data{Offset: trial.I32(5), Bytes: "ab"}, B: "\x00\x41\x05\x0b\x02ab"},
			{E: api.Data{Offset: trial.Imported(0)}, B: "\x00\x23\x00\x0b\x00"},
			{E: api.Data{Offset: trial.I32(0), Bytes: "\x0b\x00\xff"}, B: "\x00\x41\x00\x0b\x03\x0b\x00\xff"},
		},
		[]trial.Bad[api.Data]{
			{E: api.Data{Bytes: tooLong}, Why: 13},
			{E: api.Data{Bytes: "ab"}, Why: 12},
			{E: api.Data{Offset: api.Instr{Op: 0x43}}, Why: 8},
			{E: api.Data{Offset: trial.I32(1 << 32)}, Why: 1},
		},
		[]trial.Broken{
			{B: "\x01", Why: 10, At: 0},
			{B: "\x00\x00", Why: 12, At: 1},
			{B: "\x00\xbb", Why: 8, At: 1},
			{B: "\x00\x41\x05\x0b\xff\xff\xff\xff\x1f", Why: 3, At: 4},
			{B: "\x00\x41\x05\x0b\xff\xff\xff\xff\x0f", Why: 2, At: 9},
		})
}

// dylinks are what dylink.0 may tell.
func dylinks() []trial.Sample[api.Dylink] {
	return []trial.Sample[api.Dylink]{
		{E: api.Dylink{Has: true}, B: "\x01\x04\x00\x00\x00\x00"},
		{E: api.Dylink{Has: true, MemSize: 300, MemAlign: 2, TableSize: 1, TableAlign: 20}, B: "\x01\x05\xac\x02\x02\x01\x14"},
		{E: api.Dylink{Has: true, Needed: []string{"libc", ""}}, B: "\x01\x04\x00\x00\x00\x00\x02\x07\x02\x04libc\x00"},
	}
}

// wrongDylinks are what it may not.
func wrongDylinks() []trial.Bad[api.Dylink] {
	return []trial.Bad[api.Dylink]{
		{E: api.Dylink{MemSize: 1}, Why: 15},
		{E: api.Dylink{MemAlign: 21}, Why: 15},
		{E: api.Dylink{TableSize: 1}, Why: 15},
		{E: api.Dylink{TableAlign: 1}, Why: 15},
		{E: api.Dylink{Needed: []string{"a", "a"}}, Why: 15},
		{E: api.Dylink{Has: true, MemAlign: 21, Needed: make([]string, 201)}, Why: 25},
		{E: api.Dylink{Has: true, TableAlign: 21}, Why: 25},
		{E: api.Dylink{Has: true, Needed: make([]string, 201)}, Why: 29},
		{E: api.Dylink{Has: true, Needed: []string{"a", strings.Repeat("n", 201)}}, Why: 13},
		{E: api.Dylink{Has: true, Needed: []string{"\xff", "a", "a"}}, Why: 4},
		{E: api.Dylink{Has: true, Needed: []string{"a", "a", "\xff"}}, Why: 27},
	}
}

// brokenDylinks are contents of dylink.0 that may not be.
func brokenDylinks() []trial.Broken {
	const none = "\x01\x04\x00\x00\x00\x00"
	return []trial.Broken{
		{B: "", Why: 15, At: 0},
		{B: "\x00", Why: 15, At: 0},
		{B: "\x02\x03\x01\x01a", Why: 15, At: 0},
		{B: "\x01", Why: 2, At: 1},
		{B: "\x01\x05\x00\x00\x00\x00", Why: 2, At: 2},
		{B: "\x01\x03\x00\x00\x00", Why: 2, At: 5},
		{B: "\x01\x05\x00\x00\x00\x00\x00", Why: 14, At: 6},
		{B: "\x01\x08\x80\x80\x80\x80\x10\x00\x00\x00", Why: 3, At: 2},
		{B: "\x01\x04\x00\x15\x00\x00", Why: 25, At: 0},
		{B: none + "\x01\x04\x00\x00\x00\x00", Why: 15, At: 6},
		{B: none + "\x02\x01\x00", Why: 15, At: 8},
		{B: none + "\x02\x03\x01\x01\xff", Why: 4, At: 10},
		{B: none + "\x02\x05\x02\x01a\x01a", Why: 27, At: 0},
		{B: none + "\x02\x03\x01\x01a\x03\x00", Why: 15, At: 11},
	}
}

// places are those of the first n elements.
func places(n int) []int {
	list := make([]int, n)
	for at := range list {
		list[at] = at
	}
	return list
}

// empty is what Head alone is.
func empty() api.Module { return api.Module{Start: -1} }

// module of one list alone, with elements of some places, and its bytes.
func alone(p part, places ...int) (api.Module, string) {
	m := empty()
	p.give(&m, places...)
	return m, head + trial.Section(p.id, contents(p, places...))
}

// contents are those of a section with elements of some places.
func contents(p part, places ...int) string {
	list := make([]string, len(places))
	for n, at := range places {
		list[n] = p.b[at]
	}
	return trial.ListBytes(list...)
}

// paired tells whether a list needs another one that is as long.
func paired(p part) bool { return p.id == 3 || p.id == 10 }

// full is a module with n elements of each list, and all else; its sections stand apart, and the first is dylink.0.
func full(n int) (api.Module, []string) {
	m := api.Module{Start: 300, Dylink: dylinks()[2].E}
	sections := []string{trial.Custom(name, dylinks()[2].B)}
	for _, p := range parts() {
		if p.id == 9 {
			sections = append(sections, "\x08\x02\xac\x02")
		}
		p.give(&m, places(n)...)
		sections = append(sections, trial.Section(p.id, contents(p, places(n)...)))
	}
	return m, sections
}

// joined are the bytes of sections.
func joined(sections []string) string { return head + strings.Join(sections, "") }

// P17.1

// TestHead has what a module begins with, cut off and changed.
func TestHead(t *testing.T) {
	takes(t, head, empty())
	for n := range len(head) {
		refuses(t, head[:n], 2, n)
	}
	for at := range len(head) {
		for x := range 256 {
			b := []byte(head + "\x01\x01\x00")
			b[at] = byte(x)
			if byte(x) != head[at] {
				refuses(t, string(b), 5, 0)
			}
		}
	}
	if got, stop := module.Decode(nil); stop != (abort.Stop{Why: 2}) || !trial.SameModule(got, api.Module{}) {
		t.Errorf("Decode of nil: %+v, %v", tell(got), stop)
	}
}

// large is a module of n bytes, and these: it has one segment of data. Both lengths have 4 bytes.
func large(n int) (api.Module, string) {
	m := empty()
	m.Datas = []api.Data{{Offset: trial.I32(0), Bytes: tooLong[:n-22]}}
	return m, head + trial.Section(11, "\x01\x00\x41\x00\x0b"+trial.Sized(m.Datas[0].Bytes))
}

// TestMostBytes has modules of as many bytes as may be, and of one more.
func TestMostBytes(t *testing.T) {
	for n := most - 2; n <= most+2; n++ {
		m, b := large(n)
		custom := head + trial.Custom("", tooLong[:n-14])
		if len(b) != n || len(custom) != n {
			t.Fatalf("%d and %d bytes, want %d", len(b), len(custom), n)
		}
		if n <= most {
			takes(t, b, m)
			takes(t, custom, empty())
			continue
		}
		refuses(t, b, 13, 0)
		refuses(t, custom, 13, 0)
		refuses(t, custom[1:]+"\x0c", 13, 0)
	}
}

// TestSections has each section alone, with none of some elements, with one, and with several.
func TestSections(t *testing.T) {
	for _, p := range parts() {
		m, b := alone(p)
		takes(t, b, m)
		takes(t, b, empty())
		for n := range len(p.b) {
			for _, list := range [][]int{{n}, places(n + 1), slices.Repeat(places(n+1), 100)} {
				m, b := alone(p, list...)
				if paired(p) {
					refuses(t, b, 11, len(b))
				} else {
					takes(t, b, m)
				}
			}
		}
	}
}

// TestAllSections has all of them together, and without each one.
func TestAllSections(t *testing.T) {
	for n := range 4 {
		m, sections := full(n)
		takes(t, joined(sections), m)
		for at, s := range sections {
			m, _ := full(n)
			drop(&m, s[0])
			b := joined(slices.Delete(slices.Clone(sections), at, at+1))
			if n > 0 && (s[0] == 3 || s[0] == 10) {
				refuses(t, b, 11, len(b))
			} else {
				takes(t, b, m)
			}
		}
	}
}

// drop takes away what the section of a number tells.
func drop(m *api.Module, id byte) {
	switch id {
	case 0:
		m.Dylink = api.Dylink{}
	case 8:
		m.Start = -1
	}
	for _, p := range parts() {
		if p.id == id {
			p.drop(m)
		}
	}
}

// TestFuncsAndCodes has numbers of both that are equal, and that are not, with empty sections and without.
func TestFuncsAndCodes(t *testing.T) {
	funcs, codes := parts()[2], parts()[8]
	for n := range 4 {
		for k := range 4 {
			m := empty()
			funcs.give(&m, places(n)...)
			codes.give(&m, places(k)...)
			for _, skip := range []bool{false, true} {
				b := head
				if n > 0 || !skip {
					b += trial.Section(3, contents(funcs, places(n)...))
				}
				if k > 0 || !skip {
					b += trial.Section(10, contents(codes, places(k)...))
				}
				for _, more := range []string{"", trial.Section(11, "\x00"), trial.Custom("", "ab")} {
					if n == k {
						takes(t, b+more, m)
					} else {
						refuses(t, b+more, 11, len(b+more))
					}
				}
			}
		}
	}
}

// TestStart has an Index at the edges of its encoding.
func TestStart(t *testing.T) {
	for b, want := range map[string]int{
		"\x00": 0, "\x01": 1, "\x7f": 127, "\x80\x01": 128, "\xff\x7f": 1<<14 - 1, "\x80\x80\x01": 1 << 14,
		"\xff\xff\xff\xff\x07": math.MaxInt32, "\x80\x80\x80\x80\x08": 1 << 31, "\xff\xff\xff\xff\x0f": math.MaxUint32,
		"\x80\x00": 0, "\x81\x80\x80\x80\x00": 1,
	} {
		takes(t, head+trial.Section(8, b), api.Module{Start: want})
		for n := range len(b) {
			refuses(t, head+trial.Section(8, b[:n]), 2, 10)
		}
		for more := range 256 {
			refuses(t, head+trial.Section(8, b+string([]byte{byte(more)})), 14, 10+len(b))
		}
	}
	for _, x := range trial.BrokenNumbers("") {
		refuses(t, head+trial.Section(8, x.B), x.Why, 10)
		refuses(t, head+trial.Section(7, "\x00")+trial.Section(8, x.B+"\x00"), x.Why, 13)
	}
}

// otherNames are those of custom sections that nobody reads.
func otherNames() []string {
	return []string{"", "name", "dylink", "dylink.", "dylink.1", "dylink.00", "Dylink.0", " dylink.0", "dylink.0\x00", "ylink.0", "\u20ac", strings.Repeat("n", 200)}
}

// TestCustomSections has some ahead of, between and behind the others, with contents that would be wrong elsewhere.
func TestCustomSections(t *testing.T) {
	for _, contents := range []string{"", "\x00", "\x01", "\xff\xff\xff\xff\xff\xff", "\x02\x05", head, "\x01\x04\x00\x00\x00\x00", "\x01\x04\x00\x15\x00\x00"} {
		for _, n := range otherNames() {
			custom := trial.Custom(n, contents)
			takes(t, head+custom, empty())
			takes(t, head+custom+custom, empty())
			m, sections := full(2)
			for at := 1; at <= len(sections); at++ { // behind dylink.0
				takes(t, joined(slices.Insert(slices.Clone(sections), at, custom)), m)
				takes(t, joined(slices.Insert(slices.Clone(sections), at, custom, custom)), m)
			}
			m.Dylink = api.Dylink{}
			takes(t, joined(slices.Insert(sections[1:], 0, custom)), m)
		}
	}
}

// TestDylink has it as the first section, and behind others.
func TestDylink(t *testing.T) {
	for _, x := range dylinks() {
		m := empty()
		m.Dylink = x.E
		custom := trial.Custom(name, x.B)
		takes(t, head+custom, m)
		for _, n := range otherNames() {
			takes(t, head+custom+trial.Custom(n, x.B), m)
		}
		full, sections := full(2)
		full.Dylink = x.E
		sections[0] = custom
		takes(t, joined(sections), full)
		ahead := []string{trial.Custom("", ""), trial.Custom("name", "ab"), trial.Section(1, "\x00"), trial.Section(8, "\x05"), trial.Section(11, "\x00"), custom}
		for _, one := range ahead {
			refuses(t, head+one+custom, 15, len(head+one)+11)
			refuses(t, head+one+custom+trial.Custom(name, ""), 15, len(head+one)+11)
		}
	}
}

// TestWrongDylink has contents that are wrong, in the first section and behind others.
func TestWrongDylink(t *testing.T) {
	for _, x := range brokenDylinks() {
		refuses(t, head+trial.Custom(name, x.B), x.Why, 19+x.At)
		refuses(t, head+trial.Custom(name, x.B)+trial.Section(11, "\x00"), x.Why, 19+x.At)
		refuses(t, head+trial.Custom(name, x.B)+trial.Custom(name, x.B), x.Why, 19+x.At)
		// Elsewhere, what is wrong is where it stands.
		for _, one := range []string{trial.Custom("", "ab"), trial.Section(11, "\x00"), trial.Custom(name, dylinks()[0].B)} {
			refuses(t, head+one+trial.Custom(name, x.B), 15, len(head+one)+11)
		}
	}
	// A length, and that of the name, which are longer than they need be.
	b := head + "\x00\x91\x80\x00\x88\x80\x00" + name + "\x01\x04\x00\x00\x00\x00"
	takes(t, b, api.Module{Start: -1, Dylink: api.Dylink{Has: true}})
	refuses(t, b[:len(b)-1]+"\x15", 25, 23)
	refuses(t, head+trial.Section(1, "\x00")+b[8:], 15, 26)
}

// TestCutOff cuts off the contents of each section at every place, and whole modules.
func TestCutOff(t *testing.T) {
	for _, p := range parts() {
		for k := range len(p.b) + 1 {
			all := contents(p, places(k)...)
			for n := range len(all) {
				for _, lead := range []string{"", trial.Custom("a", "b")} {
					b := head + lead + trial.Section(p.id, all[:n])
					agrees(t, b)
					agrees(t, b+trial.Custom("c", "d"))
					if got, stop := module.Decode([]byte(b)); stop.Why != 2 || stop.At < len(head+lead)+2 || stop.At > len(b) {
						t.Errorf("Decode of % x: %+v, %v", b, tell(got), stop)
					}
				}
			}
		}
	}
	_, sections := full(3)
	b := joined(sections)
	for n := range len(b) {
		agrees(t, b[:n])
	}
	for at := range sections {
		for n := range len(sections[at]) {
			agrees(t, joined(slices.Concat(sections[:at], []string{sections[at][:n]}, sections[at+1:])))
		}
	}
}

// TestBytesLeft has bytes behind the last element of each section.
func TestBytesLeft(t *testing.T) {
	for _, p := range parts() {
		for n := range len(p.b) + 1 {
			_, b := alone(p, places(n)...)
			for more := range 256 {
				all := contents(p, places(n)...) + string([]byte{byte(more)})
				refuses(t, head+trial.Section(p.id, all), 14, len(b))
				refuses(t, head+trial.Section(p.id, all+p.b[0])+trial.Custom("", ""), 14, len(b))
			}
		}
	}
}

// TestBrokenElements has what is none at each place of three elements, behind other sections and alone.
func TestBrokenElements(t *testing.T) {
	_, sections := full(1)
	for _, p := range parts() {
		at := slices.IndexFunc(sections, func(s string) bool { return s[0] == p.id })
		for _, lead := range []string{"", strings.Join(sections[:at], "")} {
			for _, x := range p.broken {
				for place := range 3 {
					ahead, behind := strings.Join(p.b[:place], ""), strings.Join(p.b[place+1:3], "")
					section := trial.Section(p.id, "\x03"+ahead+x.B+behind)
					// The contents end where the section ends.
					from := len(head+lead+section) - len("\x03"+ahead+x.B+behind)
					if x.Why == 2 && place < 2 {
						continue // what follows may be what is missing
					}
					refuses(t, head+lead+section, x.Why, from+1+len(ahead)+x.At)
					refuses(t, head+lead+section+trial.Custom("", "a"), x.Why, from+1+len(ahead)+x.At)
				}
			}
		}
	}
}

// TestBrokenCounts has numbers of elements that are too large, or none.
func TestBrokenCounts(t *testing.T) {
	for _, p := range parts() {
		for _, x := range trial.BrokenNumbers("") {
			refuses(t, head+trial.Section(p.id, x.B+p.b[0]), x.Why, 10)
		}
		refuses(t, head+trial.Section(p.id, "\x91\x4e"), 29, 10)
		refuses(t, head+trial.Section(p.id, "\x90\x4e"), 2, 12)
		refuses(t, head+trial.Section(p.id, "\xff\xff\xff\xff\x0f"+p.b[0]), 29, 10)
		most := strings.Repeat(p.b[0], 10000)
		b := trial.Section(p.id, "\x91\x4e"+most+p.b[0])
		refuses(t, head+b, 29, len(head+b)-len("\x91\x4e"+most+p.b[0]))
		b = head + trial.Section(p.id, "\x90\x4e"+most)
		if paired(p) {
			refuses(t, b, 11, len(b))
			continue
		}
		m := empty()
		p.give(&m, make([]int, 10000)...)
		takes(t, b, m)
	}
	funcs, codes := parts()[2], parts()[8]
	m := empty()
	funcs.give(&m, make([]int, 10000)...)
	codes.give(&m, make([]int, 10000)...)
	takes(t, head+trial.Section(3, "\x90\x4e"+strings.Repeat(funcs.b[0], 10000))+trial.Section(10, "\x90\x4e"+strings.Repeat(codes.b[0], 10000)), m)
}

// brokenSections have each section with an error in its contents, and how far in that is.
func brokenSections() []trial.Broken {
	list := []trial.Broken{{B: trial.Custom(name, ""), Why: 15, At: 11}}
	for _, p := range parts() {
		if p.id == 9 {
			list = append(list, trial.Broken{B: "\x08\x02\x05\x00", Why: 14, At: 3})
		}
		x := p.broken[0]
		list = append(list, trial.Broken{B: trial.Section(p.id, "\x01"+x.B), Why: x.Why, At: 3 + x.At})
	}
	return list
}

// TestTwoBrokenSections: of two, the first counts.
func TestTwoBrokenSections(t *testing.T) {
	list := brokenSections()
	for first, x := range list {
		refuses(t, head+x.B, x.Why, 8+x.At)
		for _, y := range list[first+1:] {
			refuses(t, head+x.B+y.B, x.Why, 8+x.At)
			refuses(t, head+x.B+trial.Custom("", "")+y.B, x.Why, 8+x.At)
		}
	}
	// A dylink.0 that is not the first section is an error like others.
	late := trial.Custom(name, dylinks()[0].B)
	for _, x := range list[1:] {
		refuses(t, head+x.B+late, x.Why, 8+x.At)
		refuses(t, head+trial.Custom("", "")+late+x.B, 15, 22)
	}
	// Within a section, the first element counts.
	for _, p := range parts() {
		for _, x := range p.broken {
			for _, y := range p.broken {
				b := head + trial.Section(p.id, "\x02"+x.B+y.B)
				agrees(t, b)
			}
		}
	}
}

// TestSplitFirst: what is wrong with a later section counts ahead of what is wrong with the contents of an earlier one.
func TestSplitFirst(t *testing.T) {
	wrong := []trial.Broken{
		{B: "\x0c\x00", Why: 6, At: 0},
		{B: "\xff", Why: 6, At: 0},
		{B: "\x0b\x02\x00", Why: 2, At: 2},
		{B: "\x0b", Why: 2, At: 1},
		{B: "\x0b\xff\xff\xff\xff\x1f", Why: 3, At: 1},
		{B: "\x00\x02\x01\xff", Why: 4, At: 3},
		{B: "\x00\x03\xc9\x01a", Why: 13, At: 2},
		{B: "\x00\x00", Why: 2, At: 2},
		{B: "\x0b\x01\x00\x0b\x01\x00", Why: 6, At: 3},
		{B: "\x0b\x01\x00\x01\x01\x00", Why: 6, At: 3},
		{B: strings.Repeat("\x00\x01\x00", 10000), Why: 29, At: 3 * 9999},
	}
	for _, x := range brokenSections() {
		if x.B[0] == 11 {
			continue
		}
		for _, y := range wrong {
			refuses(t, head+x.B+y.B, y.Why, len(head+x.B)+y.At)
		}
	}
	// It counts ahead of numbers that differ, too.
	for _, y := range wrong {
		refuses(t, head+trial.Section(3, "\x01\x00")+y.B, y.Why, 12+y.At)
	}
}

// TestCountLast: all else counts ahead of numbers that differ.
func TestCountLast(t *testing.T) {
	funcs := trial.Section(3, "\x01\x00")
	for _, x := range brokenSections() {
		switch {
		case x.B[0] == 0 || x.B[0] < 3:
			refuses(t, head+x.B+funcs, x.Why, 8+x.At)
		case x.B[0] > 3:
			refuses(t, head+funcs+x.B, x.Why, 12+x.At)
		}
	}
	refuses(t, head+funcs+trial.Section(10, "\x02\x02\x00\x0b"), 2, 18)
	refuses(t, head+funcs+trial.Section(10, "\x02\x02\x00\x0b\x02\x00\x92"), 8, 20)
	refuses(t, head+funcs+trial.Section(10, "\x02\x02\x00\x0b\x02\x00\x0b"), 11, 21)
	refuses(t, head+funcs+trial.Section(10, "\x00")+trial.Custom("name", "ab"), 11, 24)
	refuses(t, head+funcs+trial.Custom(name, ""), 15, 23)
}

// TestEveryByteChanged has modules with all sections, in which one byte is another one.
func TestEveryByteChanged(t *testing.T) {
	for n := range 3 {
		_, sections := full(n)
		whole := joined(sections)
		for at := range len(whole) {
			for x := range 256 {
				b := []byte(whole)
				b[at] = byte(x)
				agrees(t, string(b))
			}
		}
	}
}

// TestWords has all strings of some bytes behind Head, and behind sections.
func TestWords(t *testing.T) {
	funcs, codes := trial.Section(3, "\x01\x00"), trial.Section(10, "\x01\x02\x00\x0b")
	for _, lead := range []string{"", trial.Custom(name, dylinks()[0].B), funcs, "\x08", "\x04\x04", "\x05\x03", "\x07\x05\x01"} {
		for n := range 6 {
			trial.Words([]byte{0, 1, 2, 3, 8, 10, 0x80}, n, func(w []byte) {
				agrees(t, head+lead+string(w))
				if n < 4 {
					agrees(t, head+lead+string(w)+codes)
				}
			})
		}
	}
}

// P17.2

// TestEncodeNothing has the chapter's example, and lists that are empty, nil or not.
func TestEncodeNothing(t *testing.T) {
	writes(t, empty(), head, 0)
	writes(t, api.Module{
		Types: []api.FuncType{}, Imports: []api.Import{}, Funcs: []uint32{}, Tables: []api.Limits{}, Mems: []api.Limits{}, Globals: []api.Global{},
		Exports: []api.Export{}, Start: -1, Elems: []api.Elem{}, Codes: []api.Code{}, Datas: []api.Data{}, Dylink: api.Dylink{Needed: []string{}},
	}, head, 0)
	// The zero one has a Start.
	writes(t, api.Module{}, head+"\x08\x01\x00", 0)
	m := empty()
	m.Dylink = api.Dylink{Has: true, Needed: []string{}}
	writes(t, m, head+trial.Custom(name, "\x01\x04\x00\x00\x00\x00"), 0)
}

// TestEncodeLists has each list alone, with one element and with more, up to 10000.
func TestEncodeLists(t *testing.T) {
	for _, p := range parts() {
		for n := range len(p.b) {
			for _, list := range [][]int{{n}, places(n + 1), slices.Repeat([]int{n}, 127), slices.Repeat([]int{n}, 128), slices.Repeat([]int{n}, 10000)} {
				m, b := alone(p, list...)
				if paired(p) {
					fails(t, m, 11)
				} else {
					writes(t, m, b, 0)
				}
			}
		}
	}
	// A list that needs another one.
	funcs, codes := parts()[2], parts()[8]
	for _, n := range []int{1, 2, 3, 127, 128, 10000} {
		first, second := make([]int, n), make([]int, n)
		for at := range n {
			first[at], second[at] = at%len(funcs.b), at/2%len(codes.b)
		}
		m := empty()
		funcs.give(&m, first...)
		codes.give(&m, second...)
		writes(t, m, head+trial.Section(3, contents(funcs, first...))+trial.Section(10, contents(codes, second...)), 0)
	}
}

// TestEncodeAll has all of a module together, and all but one.
func TestEncodeAll(t *testing.T) {
	for n := range 4 {
		m, sections := full(n)
		if n == 0 {
			writes(t, m, head+sections[0]+"\x08\x02\xac\x02", 0)
			continue
		}
		writes(t, m, joined(sections), 0)
		for at, s := range sections {
			if s[0] != 3 && s[0] != 10 {
				m, _ := full(n)
				drop(&m, s[0])
				writes(t, m, joined(slices.Delete(slices.Clone(sections), at, at+1)), 0)
			}
		}
	}
}

// TestEncodeStart has it at its edges.
func TestEncodeStart(t *testing.T) {
	for n, b := range map[int]string{
		0: "\x08\x01\x00", 1: "\x08\x01\x01", 127: "\x08\x01\x7f", 128: "\x08\x02\x80\x01", 1<<14 - 1: "\x08\x02\xff\x7f", 1 << 14: "\x08\x03\x80\x80\x01",
		math.MaxInt32: "\x08\x05\xff\xff\xff\xff\x07", 1 << 31: "\x08\x05\x80\x80\x80\x80\x08", math.MaxUint32: "\x08\x05\xff\xff\xff\xff\x0f", -1: "",
	} {
		writes(t, api.Module{Start: n}, head+b, 0)
	}
	for _, n := range []int{-2, -3, -128, math.MinInt32, -1 << 32, -1<<32 - 1, math.MinInt, math.MinInt + 1, 1 << 32, 1<<32 + 1, 1<<33 - 1, 1 << 40, math.MaxInt} {
		fails(t, api.Module{Start: n}, 28)
	}
}

// TestEncodeDylink has it alone, and with all else.
func TestEncodeDylink(t *testing.T) {
	for _, x := range dylinks() {
		m := empty()
		m.Dylink = x.E
		writes(t, m, head+trial.Custom(name, x.B), 0)
		m, sections := full(2)
		m.Dylink = x.E
		writes(t, m, head+trial.Custom(name, x.B)+strings.Join(sections[1:], ""), 0)
	}
	for _, x := range wrongDylinks() {
		m := empty()
		m.Dylink = x.E
		fails(t, m, x.Why)
		m, _ = full(2)
		m.Dylink = x.E
		fails(t, m, x.Why)
	}
}

// TestEncodeWrongElements has one at each place of a list, and two.
func TestEncodeWrongElements(t *testing.T) {
	for at, p := range parts() {
		for which, e := range p.wrong {
			for place := range 3 {
				m, _ := full(3)
				p.spoil(&m, place, which)
				fails(t, m, e)
				for other := range p.wrong {
					for behind := place + 1; behind < 3; behind++ {
						m, _ := full(3)
						p.spoil(&m, place, which)
						p.spoil(&m, behind, other)
						fails(t, m, e)
					}
				}
			}
			// The last of 10000, and one beside which there is nothing.
			if paired(p) {
				continue
			}
			m, _ := alone(parts()[at], make([]int, 10000)...)
			p.spoil(&m, 9999, which)
			fails(t, m, e)
			m, _ = alone(parts()[at], 0)
			p.spoil(&m, 0, which)
			fails(t, m, e)
		}
	}
}

// fault is one that a module may have, and its error.
type fault struct {
	make func(m *api.Module)
	why  api.Errno
}

// faults are those of P17.2, in its order. They may be made together.
func faults() []fault {
	list := []fault{
		{func(m *api.Module) { m.Funcs = append(m.Funcs, 0) }, 11},
		{func(m *api.Module) { m.Start = -2 }, 28},
		{func(m *api.Module) { m.Dylink.MemAlign = 21 }, 25},
	}
	codes := parts()[8]
	for _, p := range parts() {
		switch p.id {
		case 3:
			list = append(list, fault{func(m *api.Module) {
				p.give(m, make([]int, 10001)...)
				codes.give(m, make([]int, 10001)...)
			}, 29})
		case 10: // there are too many only where there are too many Funcs
		default:
			list = append(list, fault{func(m *api.Module) { p.give(m, make([]int, 10001)...) }, 29})
		}
		if last := len(p.wrong) - 1; last >= 0 {
			list = append(list, fault{func(m *api.Module) { p.spoil(m, 1, last) }, p.wrong[last]})
		}
	}
	return append(list, fault{func(m *api.Module) { m.Datas = append(m.Datas, api.Data{Offset: trial.I32(0), Bytes: tooLong[:most]}) }, 13})
}

// TestTwoFaults: of two, the one that the chapter mentions first counts.
func TestTwoFaults(t *testing.T) {
	for first, x := range faults() {
		m, _ := full(3)
		x.make(&m)
		fails(t, m, x.why)
		for _, y := range faults()[first+1:] {
			m, _ := full(3)
			x.make(&m)
			y.make(&m)
			fails(t, m, x.why)
		}
	}
}

// TestMany has lists of 10001 elements, and more, of which some are wrong.
func TestMany(t *testing.T) {
	for at, p := range parts() {
		if paired(p) {
			continue
		}
		for _, n := range []int{10001, 10002, 16384, 20000} {
			m, _ := alone(p, make([]int, n)...)
			fails(t, m, 29)
			if len(p.wrong) > 0 {
				m, _ := alone(parts()[at], make([]int, n)...)
				p.spoil(&m, 0, 0)
				fails(t, m, 29)
			}
		}
	}
	funcs, codes := parts()[2], parts()[8]
	for _, n := range []int{10001, 20000} {
		m := empty()
		funcs.give(&m, make([]int, n)...)
		fails(t, m, 11)
		codes.give(&m, make([]int, n)...)
		fails(t, m, 29)
		codes.spoil(&m, 0, 0)
		fails(t, m, 29)
		m.Mems = []api.Limits{{Max: 1}}
		fails(t, m, 29)
		m.Tables, m.Exports = m.Mems, []api.Export{{Kind: 4}}
		fails(t, m, 29)
		m.Imports = []api.Import{{Kind: 4}}
		fails(t, m, 43)
	}
}

// TestLong has encodings of as many bytes as may be, and of one more, in one segment and in two.
func TestLong(t *testing.T) {
	for n := most - 2; n <= most+2; n++ {
		m, b := large(n)
		if n <= most {
			writes(t, m, b, 0)
			continue
		}
		fails(t, m, 13)
		m.Start = 5
		fails(t, m, 13)
		m.Start = 1 << 32
		fails(t, m, 28)
	}
	m, _ := large(most)
	m.Start = 0
	fails(t, m, 13)
	m, _ = large(most - 3)
	m.Start = 0
	agreesOn(t, m)
	if b, e := module.Encode(m); len(b) != most || e != 0 {
		t.Errorf("%d bytes, %d", len(b), e)
	}
	half := api.Data{Offset: trial.I32(0), Bytes: tooLong[:most/2]}
	m.Datas = []api.Data{half, half}
	fails(t, m, 13)
	m.Datas = slices.Repeat([]api.Data{half}, 30)
	fails(t, m, 13)
	m.Datas[29].Offset.Op = 1
	fails(t, m, 12)
	// Many sections, none of which is too long.
	m, _ = full(3)
	m.Codes = slices.Repeat([]api.Code{{Body: trial.Plains(strings.Repeat("\x01", 19999) + "\x0b")}}, 105)
	m.Funcs = make([]uint32, 105)
	m.Datas = []api.Data{half}
	fails(t, m, 13)
	m.Codes, m.Funcs = m.Codes[:104], m.Funcs[:104]
	agreesOn(t, m)
	if b, e := module.Encode(m); len(b) < most/2+104*20000 || e != 0 {
		t.Errorf("%d bytes, %d", len(b), e)
	}
}

// P17.3

// checkFuncs checks the types of all functions of a module, by their indices and by themselves.
func checkFuncs(t *testing.T, m api.Module, want ...uint32) {
	t.Helper()
	if got := module.Funcs(m); !slices.Equal(got, want) {
		t.Errorf("Funcs of %d imports and %d: %d, %d, want %d, %d", len(m.Imports), len(m.Funcs), len(got), few(got), len(want), few(want))
	}
	for f, n := range want {
		checkType(t, m, uint32(f), n)
	}
	for _, f := range []uint32{uint32(len(want)), uint32(len(want)) + 1, 1 << 16, 1 << 31, math.MaxUint32} {
		if got, ok := module.TypeOf(m, f); ok || got != (api.FuncType{}) {
			t.Errorf("TypeOf(%d) of %d functions: %+v, %t", f, len(want), got, ok)
		}
	}
}

// checkType checks that of a function, which is the nth one, if there are so many.
func checkType(t *testing.T, m api.Module, f, n uint32) {
	t.Helper()
	var want api.FuncType
	if uint64(n) < uint64(len(m.Types)) {
		want = m.Types[n]
	}
	if got, ok := module.TypeOf(m, f); got != want || ok != (uint64(n) < uint64(len(m.Types))) {
		t.Errorf("TypeOf(%d), which is type %d of %d: %+v, %t, want %+v", f, n, len(m.Types), got, ok, want)
	}
}

// taken is an import of a kind, with a type that only counts for a function.
func taken(kind byte, n uint32) api.Import { return api.Import{Name: "f", Kind: kind, Type: n} }

func TestFuncs(t *testing.T) {
	types := []api.FuncType{{}, {Params: "\x7f"}, {Results: "\x7e"}}
	checkFuncs(t, api.Module{})
	checkFuncs(t, api.Module{Types: types})
	checkFuncs(t, api.Module{Types: types, Funcs: []uint32{}, Imports: []api.Import{}})
	checkFuncs(t, api.Module{Types: types, Funcs: []uint32{2, 0, 1, 1}}, 2, 0, 1, 1)
	checkFuncs(t, api.Module{Types: types, Imports: []api.Import{taken(0, 1), taken(0, 0)}}, 1, 0)
	checkFuncs(t, api.Module{Types: types, Imports: []api.Import{taken(0, 1), taken(0, 0)}, Funcs: []uint32{2, 1}}, 1, 0, 2, 1)
	for kind := 1; kind < 256; kind++ {
		x := taken(byte(kind), 2)
		checkFuncs(t, api.Module{Types: types, Imports: []api.Import{x}})
		checkFuncs(t, api.Module{Types: types, Imports: []api.Import{x, x}, Funcs: []uint32{1}}, 1)
		checkFuncs(t, api.Module{Types: types, Imports: []api.Import{taken(0, 1), x, taken(0, 0), x}, Funcs: []uint32{2}}, 1, 0, 2)
	}
	// Codes, Start and all else do not count.
	m, _ := full(3)
	m.Types = types
	checkFuncs(t, m, 5, 0, 300, math.MaxUint32)
}

// TestTypesThatAreNot has types that a module does not have, or has none.
func TestTypesThatAreNot(t *testing.T) {
	for n := range 4 {
		types := make([]api.FuncType, n)
		for at := range types {
			types[at].Params = strings.Repeat("\x7f", at+1)
		}
		list := []uint32{0, 1, 2, 3, 4, 1 << 31, math.MaxUint32, 0}
		checkFuncs(t, api.Module{Types: types, Funcs: list}, list...)
		var imports []api.Import
		for _, x := range list {
			imports = append(imports, taken(0, x))
		}
		checkFuncs(t, api.Module{Types: types, Imports: imports}, list...)
	}
	// A type of any bytes is handed on as it is.
	odd := api.FuncType{Params: "\x00\xff", Results: "\x7d\x7d\x7d"}
	checkFuncs(t, api.Module{Types: []api.FuncType{odd}, Funcs: []uint32{0}}, 0)
}

// TestManyFuncs has more than a module may have, and as many types.
func TestManyFuncs(t *testing.T) {
	m := api.Module{Types: make([]api.FuncType, 300)}
	for at := range m.Types {
		m.Types[at].Params = strings.Repeat("\x7e", at)
	}
	var want []uint32
	for at := range 600 {
		x := taken(byte(at%3/2), uint32(at%310))
		m.Imports = append(m.Imports, x)
		if x.Kind == 0 {
			want = append(want, x.Type)
		}
	}
	for at := range 20000 {
		m.Funcs = append(m.Funcs, uint32(at*7%310))
	}
	want = append(want, m.Funcs...)
	if got := module.Funcs(m); !slices.Equal(got, want) {
		t.Errorf("%d functions, want %d", len(got), len(want))
	}
	for at := 0; at < len(want); at += 97 {
		checkType(t, m, uint32(at), want[at])
	}
	checkType(t, m, uint32(len(want)-1), want[len(want)-1])
}

// P17.4

// anyModule has some of the elements that there are, by chance.
func anyModule(next func(n int) int) api.Module {
	m := empty()
	funcs := next(5)
	for _, p := range parts() {
		n := next(5) * next(2)
		if paired(p) {
			n = funcs
		}
		for range n {
			p.give(&m, next(len(p.b)))
		}
	}
	if next(2) == 0 {
		m.Start = next(1000)
	}
	if some := dylinks(); next(2) == 0 {
		m.Dylink = some[next(len(some))].E
	}
	return m
}

// comesBack checks that a module is decoded as it was encoded.
func comesBack(t *testing.T, m api.Module) {
	t.Helper()
	b, e := module.Encode(m)
	got, stop := module.Decode(b)
	if e != 0 || stop != (abort.Stop{}) || !trial.SameModule(got, m) {
		t.Errorf("Encode: %d, then Decode: %+v, %v, want %+v", e, tell(got), stop, tell(m))
	}
	if again, e := module.Encode(got); e != 0 || !bytes.Equal(again, b) {
		t.Errorf("Encode of what came back: %d, %d bytes, want %d", e, len(again), len(b))
	}
}

func TestInverse(t *testing.T) {
	comesBack(t, empty())
	for n := range 4 {
		m, _ := full(n)
		comesBack(t, m)
	}
	next := trial.Chance(17)
	for range 3000 {
		m := anyModule(next)
		comesBack(t, m)
		agreesOn(t, m)
		b, _ := module.Encode(m)
		agrees(t, string(b))
	}
	for _, p := range parts() {
		if !paired(p) {
			m, _ := alone(p, make([]int, 10000)...)
			comesBack(t, m)
		}
	}
	m, _ := large(most)
	comesBack(t, m)
}

// becomes checks that bytes are a module that is encoded otherwise, and decoded to the same one.
func becomes(t *testing.T, b string, m api.Module, want string) {
	t.Helper()
	takes(t, b, m)
	got, _ := module.Decode([]byte(b))
	writes(t, got, want, 0)
	takes(t, want, got)
}

// TestOtherEncodings has bytes that are taken, but not written.
func TestOtherEncodings(t *testing.T) {
	m, sections := full(3)
	whole := joined(sections)
	// Sections that are empty, or that nobody reads.
	becomes(t, head+trial.Custom("a", "b"), empty(), head)
	var none string
	for id := range 12 {
		if id != 0 && id != 8 {
			none += trial.Section(byte(id), "\x00")
		}
	}
	becomes(t, head+none, empty(), head)
	becomes(t, head+strings.ReplaceAll(none, "\x01\x00", "\x85\x00\x80\x80\x80\x80\x00"), empty(), head)
	for at := 1; at <= len(sections); at++ {
		becomes(t, joined(slices.Insert(slices.Clone(sections), at, trial.Custom("a", "b"), trial.Custom("", ""))), m, whole)
	}
	// Lengths that are longer than they need be.
	for at, s := range sections {
		some := slices.Clone(sections)
		some[at] = s[:1] + string([]byte{s[1] | 0x80}) + "\x80\x80\x00" + s[2:]
		becomes(t, joined(some), m, whole)
	}
	// Numbers that are so, in each section.
	for _, x := range []struct{ b, want string }{
		{"\x01\x09\x81\x00\x60\x81\x00\x7f\x81\x00\x7f", "\x01\x06\x01\x60\x01\x7f\x01\x7f"},
		{"\x02\x0a\x81\x00\x81\x00a\x80\x00\x00\x85\x00", "\x02\x06\x01\x01a\x00\x00\x05"},
		{"\x04\x06\x81\x00\x70\x00\x81\x00", "\x04\x04\x01\x70\x00\x01"},
		{"\x05\x07\x81\x00\x01\x81\x00\x82\x00", "\x05\x04\x01\x01\x01\x02"},
		{"\x06\x08\x81\x00\x7f\x00\x41\x85\x00\x0b", "\x06\x06\x01\x7f\x00\x41\x05\x0b"},
		{"\x06\x08\x81\x00\x7e\x00\x42\xff\x7f\x0b", "\x06\x06\x01\x7e\x00\x42\x7f\x0b"},
		{"\x07\x08\x81\x00\x81\x00a\x00\x83\x00", "\x07\x05\x01\x01a\x00\x03"},
		{"\x08\x03\x85\x80\x00", "\x08\x01\x05"},
		{"\x09\x0b\x81\x00\x00\x41\x85\x00\x0b\x81\x00\x82\x00", "\x09\x07\x01\x00\x41\x05\x0b\x01\x02"},
		{"\x03\x04\x81\x00\x80\x00\x0a\x0d\x81\x00\x89\x00\x81\x00\x82\x00\x7f\x41\xff\x7f\x0b", "\x03\x02\x01\x00\x0a\x08\x01\x06\x01\x02\x7f\x41\x7f\x0b"},
		{"\x0b\x0b\x81\x00\x00\x41\x85\x00\x0b\x82\x00ab", "\x0b\x08\x01\x00\x41\x05\x0b\x02ab"},
		{"\x00\x16\x88\x00" + name + "\x01\x89\x00\x85\x00\x84\x00\x83\x00\x82\x80\x00", trial.Custom(name, "\x01\x04\x05\x04\x03\x02")},
	} {
		got, stop := module.Decode([]byte(head + x.b))
		if stop != (abort.Stop{}) {
			agrees(t, head+x.b)
			t.Errorf("Decode of % x: %v", x.b, stop)
		}
		becomes(t, head+x.b, got, head+x.want)
	}
}

// TestEveryDecodedModule: what is decoded, after a change of a byte, is encoded, and decoded to the same.
func TestEveryDecodedModule(t *testing.T) {
	_, sections := full(3)
	whole := joined(sections)
	decoded := 0
	for at := range len(whole) {
		for x := range 256 {
			b := []byte(whole)
			b[at] = byte(x)
			if m, stop := module.Decode(b); stop == (abort.Stop{}) {
				comesBack(t, m)
				decoded++
			}
		}
	}
	if decoded < 1000 {
		t.Errorf("%d modules", decoded)
	}
}

// P1

// TestAnyBytes has bytes by chance behind Head and section headers.
func TestAnyBytes(t *testing.T) {
	next := trial.Chance(5)
	for range 20000 {
		b := []byte(head)
		for range next(4) {
			contents := make([]byte, next(12))
			for at := range contents {
				contents[at] = byte(next(256))
				if next(4) > 0 {
					contents[at] = byte(next(4))
				}
			}
			b = append(b, trial.Section(byte(next(13)), string(contents))...)
		}
		agrees(t, string(b))
		agrees(t, string(b[:next(len(b)+1)]))
	}
	for x := range 256 {
		agrees(t, strings.Repeat(string([]byte{byte(x)}), 1000))
		agrees(t, head+strings.Repeat(string([]byte{byte(x)}), 1000))
	}
}

// TestAnyModule has modules with whatever their fields can be.
func TestAnyModule(t *testing.T) {
	next := trial.Chance(6)
	text := func() string { return strings.Repeat(string([]byte{byte(next(256))}), next(3)) }
	limits := func() api.Limits {
		return api.Limits{Min: uint32(next(5)) * 900000000, Max: uint32(next(3)) * 1234567890, Bound: next(2) == 0}
	}
	instr := func() api.Instr {
		op := byte(next(256))
		if next(2) == 0 {
			op = "\x0b\x41\x42\x23"[next(4)]
		}
		return api.Instr{Op: op, A: uint64(next(3)) << (next(4) * 16), B: uint64(next(9)) / 8, L: make([]uint32, next(9)/8)}
	}
	for range 20000 {
		m := api.Module{Start: next(10) - 2}
		for range next(2) {
			m.Types = append(m.Types, api.FuncType{Params: text(), Results: text()})
			m.Imports = append(m.Imports, api.Import{Module: text(), Name: text(), Kind: byte(next(6)), Type: uint32(next(2)), Limits: limits(), Global: api.GlobalType{T: byte(next(256)), Mut: next(2) == 0}})
			m.Tables, m.Mems = append(m.Tables, limits()), append(m.Mems, limits())
			m.Globals = append(m.Globals, api.Global{Type: api.GlobalType{T: byte(0x7c + next(4))}, Init: instr()})
			m.Exports = append(m.Exports, api.Export{Name: text(), Kind: byte(next(6)), Index: uint32(next(300))})
			m.Elems = append(m.Elems, api.Elem{Offset: instr(), Funcs: make([]uint32, next(3))})
			m.Funcs = make([]uint32, next(3))
			m.Codes = append(m.Codes, api.Code{Locals: []api.Local{{N: uint32(next(2000)), T: byte(0x7c + next(4))}}, Body: []api.Instr{instr(), {Op: 0x0b}}})
			m.Datas = append(m.Datas, api.Data{Offset: instr(), Bytes: text()})
			m.Dylink = api.Dylink{Has: next(2) == 0, MemAlign: uint32(next(22)), Needed: []string{text()}[:next(2)]}
		}
		// Each list has a chance to be the one that counts.
		for _, p := range parts() {
			if next(2) == 0 {
				drop(&m, p.id)
			}
		}
		agreesOn(t, m)
		module.Funcs(m)
		for _, f := range []uint32{0, 1, 2, math.MaxUint32} {
			module.TypeOf(m, f)
		}
	}
}

// P2

// TestArguments has bytes and lists with room behind them: all of it stays.
func TestArguments(t *testing.T) {
	m, sections := full(3)
	room := []byte(joined(sections) + "\x0c\x0c")
	for n := range len(room) + 1 {
		module.Decode(room[:n])
	}
	if string(room) != joined(sections)+"\x0c\x0c" {
		t.Errorf("the bytes are % x", room)
	}
	// Fewer of all elements, so that there are others behind them.
	for n := range 4 {
		some := m
		some.Types, some.Imports, some.Funcs, some.Tables, some.Mems = m.Types[:n], m.Imports[:n], m.Funcs[:n], m.Tables[:n], m.Mems[:n]
		some.Globals, some.Exports, some.Elems, some.Codes, some.Datas = m.Globals[:n], m.Exports[:n], m.Elems[:n], m.Codes[:n], m.Datas[:n]
		module.Encode(some)
		module.Funcs(some)
		module.TypeOf(some, 0)
		some.Dylink.Has = false
		module.Encode(some)
	}
	if same, _ := full(3); !trial.SameModule(m, same) {
		t.Errorf("the module has changed: %+v", tell(m))
	}
}

// TestKept spoils what was handed in: the results stay.
func TestKept(t *testing.T) {
	m, sections := full(3)
	b := []byte(joined(sections))
	got, _ := module.Decode(b)
	trial.Spoil(b, 0xee)
	if !trial.SameModule(got, m) {
		t.Errorf("Decode: %+v, want %+v", tell(got), tell(m))
	}
	put, _ := module.Encode(m)
	funcs, want := module.Funcs(m), []uint32{5, 0, 300, math.MaxUint32}
	spoil(&m)
	if string(put) != joined(sections) || !slices.Equal(funcs, want) {
		t.Errorf("Encode: % x, Funcs: %d", put, funcs)
	}
}

// spoil overwrites all that a module shares with others that are like it.
func spoil(m *api.Module) {
	for _, x := range m.Elems {
		trial.Spoil(x.Funcs, 7)
	}
	for _, x := range m.Codes {
		trial.Spoil(x.Locals, api.Local{N: 7, T: 7})
		for _, i := range x.Body {
			trial.Spoil(i.L, 7)
		}
		trial.Spoil(x.Body, api.Instr{Op: 7})
	}
	trial.Spoil(m.Types, api.FuncType{Params: "other"})
	trial.Spoil(m.Imports, api.Import{Name: "other"})
	trial.Spoil(m.Funcs, 7)
	trial.Spoil(m.Tables, api.Limits{Min: 7})
	trial.Spoil(m.Mems, api.Limits{Min: 7})
	trial.Spoil(m.Globals, api.Global{Init: api.Instr{Op: 7}})
	trial.Spoil(m.Exports, api.Export{Name: "other"})
	trial.Spoil(m.Elems, api.Elem{Offset: api.Instr{Op: 7}})
	trial.Spoil(m.Codes, api.Code{})
	trial.Spoil(m.Datas, api.Data{Bytes: "other"})
	trial.Spoil(m.Dylink.Needed, "other")
}

// TestNew spoils results: those of other calls stay.
func TestNew(t *testing.T) {
	m, sections := full(3)
	b := joined(sections)
	for range 3 {
		got, stop := module.Decode([]byte(b))
		if !trial.SameModule(got, m) || stop != (abort.Stop{}) {
			t.Errorf("Decode: %+v, %v, want %+v", tell(got), stop, tell(m))
		}
		spoil(&got)
		put, _ := module.Encode(m)
		none, _ := module.Encode(empty())
		if string(put) != b || string(none) != head {
			t.Errorf("Encode: % x, and of none: % x", put, none)
		}
		trial.Spoil(put, 0xee)
		trial.Spoil(none, 0xee)
		own := api.Module{Funcs: []uint32{1, 2, 3}}
		for _, x := range []api.Module{m, own} {
			list := module.Funcs(x)
			trial.Spoil(list, 7)
			if !slices.Equal(module.Funcs(own), []uint32{1, 2, 3}) || !slices.Equal(m.Funcs, []uint32{0, 300, math.MaxUint32}) {
				t.Errorf("Funcs: %d and %d", own.Funcs, m.Funcs)
			}
		}
	}
	// No two lists of one module share anything.
	got, _ := module.Decode([]byte(b))
	trial.Spoil(got.Tables, api.Limits{})
	trial.Spoil(got.Funcs, 7)
	trial.Spoil(got.Elems[0].Funcs, 7)
	if !slices.Equal(got.Mems, m.Mems) || !slices.Equal(got.Elems[2].Funcs, m.Elems[2].Funcs) {
		t.Errorf("Decode: %+v and %+v", got.Mems, got.Elems)
	}
}

// TestCalls looks at results behind calls with errors.
func TestCalls(t *testing.T) {
	m, sections := full(2)
	b := joined(sections)
	for at, p := range parts() {
		for which := range p.wrong {
			bad, _ := full(2)
			p.spoil(&bad, 0, which)
			module.Encode(bad)
		}
		for _, x := range p.broken {
			module.Decode([]byte(joined(sections[:at+1]) + trial.Section(p.id, "\x01"+x.B)))
		}
		takes(t, b, m)
		writes(t, m, b, 0)
		checkFuncs(t, m, 5, 0, 300)
	}
}
