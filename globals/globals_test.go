package globals_test

import (
	"math"
	"slices"
	"testing"

	"creel/api"
	"creel/globals"
	"creel/trial"
)

// The model is written from the chapters with numbers of its own, and asks no layer; most of it stands in package trial.

// modelTaken is P12.2's second sentence.
func modelTaken(list []api.Import) []api.GlobalType {
	if len(list) == 0 {
		return nil
	}
	rest := modelTaken(list[1:])
	if list[0].Kind != 3 {
		return rest
	}
	return append([]api.GlobalType{list[0].Global}, rest...)
}

// modelTypes is P12.2's first sentence.
func modelTypes(m api.Module) []api.GlobalType {
	own := make([]api.GlobalType, len(m.Globals))
	for at, g := range m.Globals {
		own[at] = g.Type
	}
	return slices.Concat(modelTaken(m.Imports), own)
}

// modelBegin is what P12.2 says of Begin.
func modelBegin(list []api.Global, taken []api.Value) ([]api.Value, api.Errno) {
	var values []api.Value
	for _, g := range list {
		v, e := trial.ConstValue(g.Init, taken)
		if e == 0 && v.T != g.Type.T {
			e = 7
		}
		if e != 0 {
			return nil, e
		}
		values = append(values, v)
	}
	return values, 0
}

// What the tests are made of.

// global is one that does not change.
func global(t byte, init api.Instr) api.Global {
	return api.Global{Type: api.GlobalType{T: t}, Init: init}
}

// mutable is one that does.
func mutable(t byte, init api.Instr) api.Global {
	return api.Global{Type: api.GlobalType{T: t, Mut: true}, Init: init}
}

// Checks.

// checkTypes checks the types of a module's globals; of many, it tells the first ones.
func checkTypes(t *testing.T, m api.Module, taken, all []api.GlobalType) {
	t.Helper()
	if got := globals.Taken(m); !slices.Equal(got, taken) {
		t.Errorf("Taken of %d imports: %d, %+v, want %d, %+v", len(m.Imports), len(got), got[:min(len(got), 9)], len(taken), taken[:min(len(taken), 9)])
	}
	if got := globals.Types(m); !slices.Equal(got, all) {
		t.Errorf("Types of %d imports and %d globals: %d, %+v, want %d, %+v", len(m.Imports), len(m.Globals), len(got), got[:min(len(got), 9)], len(all), all[:min(len(all), 9)])
	}
}

// checkModule checks them against the model.
func checkModule(t *testing.T, m api.Module) {
	t.Helper()
	checkTypes(t, m, modelTaken(m.Imports), modelTypes(m))
}

// checkBegin checks the values with which globals begin, or the error and that there are none.
func checkBegin(t *testing.T, list []api.Global, taken []api.Value, want []api.Value, e api.Errno) {
	t.Helper()
	if got, gotE := globals.Begin(list, taken); !slices.Equal(got, want) || gotE != e {
		t.Errorf("Begin of %d globals with %d taken: %d, %x, %d, want %d, %x, %d", len(list), len(taken), len(got), got[:min(len(got), 9)], gotE, len(want), want[:min(len(want), 9)], e)
	}
}

// checkBegins checks them against the model.
func checkBegins(t *testing.T, list []api.Global, taken []api.Value) {
	t.Helper()
	want, e := modelBegin(list, taken)
	checkBegin(t, list, taken, want, e)
}

// layer is what reads and writes.
var layer = trial.Layer[api.Global]{
	Right:  globals.Right,
	Put:    globals.Put,
	Get:    globals.Get,
	GetAll: globals.GetAll,
	PutAll: globals.PutAll,

	ModelRight: trial.GlobalError,
	ModelPut:   trial.GlobalBytes,
	ModelGet:   (*trial.Model).Global,

	Samples: samples,
	Wrong:   wrong,
	Broken:  broken(),
	Any:     anyGlobal,
	Other:   mutable(0x77, api.Instr{Op: 0x77, A: 7, B: 7}),
	Same:    trial.SameGlobal,
	Tell:    told,
}

// one reads a global.
var one = layer.One()

// told is a global with no more of its labels than is worth telling.
func told(g api.Global) any {
	g.Init.L = g.Init.L[:min(len(g.Init.L), 3)]
	return g
}

// forms has each form of Init for each type, mutable and not.
func forms() []trial.Sample[api.Global] {
	var list []trial.Sample[api.Global]
	for _, x := range trial.Consts() {
		list = append(list,
			trial.Sample[api.Global]{E: global(0x7f, x.E), B: "\x7f\x00" + x.B},
			trial.Sample[api.Global]{E: mutable(0x7e, x.E), B: "\x7e\x01" + x.B},
			trial.Sample[api.Global]{E: mutable(0x7f, x.E), B: "\x7f\x01" + x.B},
			trial.Sample[api.Global]{E: global(0x7e, x.E), B: "\x7e\x00" + x.B},
		)
	}
	return list
}

// samples has the chapter's example ahead, and then two of each four forms.
func samples() []trial.Sample[api.Global] {
	list := []trial.Sample[api.Global]{{E: mutable(0x7f, trial.I32(5)), B: "\x7f\x01\x41\x05\x0b"}}
	for at, x := range forms() {
		if at%8 < 2 || at%8 > 5 {
			list = append(list, x)
		}
	}
	return list
}

// wrong are globals that may not be, one for each way to be so, and with two errors.
func wrong() []trial.Bad[api.Global] {
	list := []trial.Bad[api.Global]{
		{E: global(0x7d, trial.I32(5)), Why: 8},
		{E: mutable(0x7c, trial.I64(5)), Why: 8},
		{E: global(0x70, trial.I32(5)), Why: 7},
		{E: mutable(0x40, trial.Imported(0)), Why: 7},
		{E: global(0, trial.I32(0)), Why: 7},
		{E: mutable(0xff, trial.I32(0)), Why: 7},
		// The type counts ahead of the Init.
		{E: global(0x7d, api.Instr{Op: 0x6a}), Why: 8},
		{E: global(0x7c, api.Instr{Op: 0x06}), Why: 8},
		{E: global(0x7c, api.Instr{Op: 0x41, A: 1 << 32}), Why: 8},
		{E: global(0x60, api.Instr{Op: 0x43}), Why: 7},
		{E: mutable(0x7b, api.Instr{Op: 0x23, B: 1}), Why: 7},
		{E: api.Global{}, Why: 7},
	}
	for at, x := range trial.WrongConsts() {
		list = append(list, trial.Bad[api.Global]{E: api.Global{Type: api.GlobalType{T: 0x7f - byte(at%2), Mut: at%4 > 1}, Init: x.E}, Why: x.Why})
	}
	return list
}

// broken has every byte that is wrong as the type, as the mutability, and in the expression.
func broken() []trial.Broken {
	return slices.Concat(
		trial.BrokenBytes(trial.TypeError, ""),
		trial.BrokenBytes(trial.UpTo(1, 10), "\x7f", "\x7e"),
		trial.BrokenConsts("\x7f\x00", "\x7e\x01"),
	)
}

// P12.1

// TestEveryType has all bytes as the type, mutable and not, with expressions that may be and that may not.
func TestEveryType(t *testing.T) {
	for b := range 256 {
		want := trial.TypeError(byte(b))
		for _, init := range []api.Instr{trial.I32(5), trial.I64(math.MaxUint64), trial.Imported(7)} {
			layer.Judges(t, global(byte(b), init), want)
			layer.Judges(t, mutable(byte(b), init), want)
		}
		for _, bad := range trial.WrongConsts() {
			e := want
			if e == 0 {
				e = bad.Why
			}
			layer.Judges(t, global(byte(b), bad.E), e)
			layer.Judges(t, mutable(byte(b), bad.E), e)
		}
	}
	layer.Judges(t, global(0x7f, trial.I32(0)), 0)
	layer.Judges(t, global(0x7e, trial.I64(0)), 0)
	layer.Judges(t, global(0x7d, trial.I32(0)), 8)
	layer.Judges(t, global(0x7c, trial.I32(0)), 8)
	layer.Judges(t, global(0x70, trial.I32(0)), 7)
}

// TestEveryInstruction has all opcodes, with as little behind them as may be and with more.
func TestEveryInstruction(t *testing.T) {
	for op := range 256 {
		i := trial.Plain(byte(op))
		layer.AgreesOn(t, global(0x7f, i))
		layer.AgreesOn(t, mutable(0x7e, i))
		i.A = 1
		layer.AgreesOn(t, global(0x7e, i))
		i.B = 1
		layer.AgreesOn(t, mutable(0x7f, i))
		i.B, i.L = 0, []uint32{0}
		layer.AgreesOn(t, global(0x7f, i))
	}
	layer.Judges(t, global(0x7f, api.Instr{Op: 0x23}), 0)
	layer.Judges(t, global(0x7f, api.Instr{Op: 0x41}), 0)
	layer.Judges(t, global(0x7f, api.Instr{Op: 0x42}), 0)
	layer.Judges(t, global(0x7f, api.Instr{Op: 0x24}), 12)
	layer.Judges(t, global(0x7f, api.Instr{Op: 0x0b}), 12)
	layer.Judges(t, global(0x7f, api.Instr{Op: 0x43}), 8)
	layer.Judges(t, global(0x7f, api.Instr{Op: 0x44}), 8)
	layer.Judges(t, global(0x7f, api.Instr{Op: 0x25}), 9)
}

// TestInitsOfOtherTypes: nobody asks here whether the Init has the type of the global.
func TestInitsOfOtherTypes(t *testing.T) {
	layer.Writes(t, global(0x7f, trial.I64(5)), "\x7f\x00\x42\x05\x0b")
	layer.Writes(t, mutable(0x7e, trial.I32(5)), "\x7e\x01\x41\x05\x0b")
	one.Takes(t, "\x7f\x00\x42\x05\x0b", global(0x7f, trial.I64(5)), 5)
	one.Takes(t, "\x7e\x01\x41\x05\x0b", mutable(0x7e, trial.I32(5)), 5)
}

func TestPut(t *testing.T) { layer.TestPut(t) }

// TestEveryForm writes and reads them.
func TestEveryForm(t *testing.T) {
	for _, x := range forms() {
		layer.Writes(t, x.E, x.B)
		one.Takes(t, x.B, x.E, len(x.B))
		for n := range len(x.B) {
			one.Agrees(t, x.B[:n])
		}
	}
}

// TestPutOfNoLabels: an empty list is the same as none.
func TestPutOfNoLabels(t *testing.T) {
	for _, x := range samples() {
		x.E.Init.L = []uint32{}
		layer.Writes(t, x.E, x.B)
	}
}

// TestExample is the chapter's.
func TestExample(t *testing.T) {
	g := api.Global{Type: api.GlobalType{T: api.I32, Mut: true}, Init: api.Instr{Op: 0x41, A: 5}}
	layer.Writes(t, g, "\x7f\x01\x41\x05\x0b")
	one.Takes(t, "\x7f\x01\x41\x05\x0b", g, 5)
}

func TestGet(t *testing.T) { layer.TestGet(t) }

func TestGetInTurn(t *testing.T) { layer.TestGetInTurn(t) }

func TestBroken(t *testing.T) { layer.TestBroken(t) }

// TestCutOff cuts globals of each form off at every place: the error is at the part that is not whole.
func TestCutOff(t *testing.T) {
	for _, kind := range []string{"\x7f\x00", "\x7f\x01", "\x7e\x00", "\x7e\x01"} {
		layer.TestCutOff(t, kind+"\x23\x00\x0b", []int{0, 1, 2, 3, 4})
		layer.TestCutOff(t, kind+"\x23\xff\xff\xff\xff\x0f\x0b", []int{0, 1, 2, 3, 8})
		layer.TestCutOff(t, kind+"\x41\x05\x0b", []int{0, 1, 2, 3, 4})
		layer.TestCutOff(t, kind+"\x41\x85\x80\x80\x80\x00\x0b", []int{0, 1, 2, 3, 8})
		layer.TestCutOff(t, kind+"\x42\x7f\x0b", []int{0, 1, 2, 3, 4})
		layer.TestCutOff(t, kind+"\x42\x80\x80\x80\x80\x80\x80\x80\x80\x80\x7f\x0b", []int{0, 1, 2, 3, 13})
	}
	// What may not be there is read whole before it is refused.
	one.Refuses(t, "\x7f\x00\x20", 2, 3)
	one.Refuses(t, "\x7f\x00\x20\x80", 2, 3)
	one.Refuses(t, "\x7f\x00\x28\x02", 2, 4)
	one.Refuses(t, "\x7f\x00\x0e\x02\x01", 2, 5)
}

// TestFirstError has several errors in one global: what comes first counts.
func TestFirstError(t *testing.T) {
	one.Refuses(t, "\x7d\x02\x43", 8, 0)
	one.Refuses(t, "\x70\x02\x43", 7, 0)
	one.Refuses(t, "\x7f\x02\x43", 10, 1)
	one.Refuses(t, "\x7f\x01\x43", 8, 2)
	one.Refuses(t, "\x7f\x01\x06", 9, 2)
	one.Refuses(t, "\x7f\x01\x6a", 12, 2)
	one.Refuses(t, "\x7f\x01\x20\x80\x80\x80\x80\x10\x0c", 3, 3)
	one.Refuses(t, "\x7f\x01\x20\x00\x0c", 12, 2)
	one.Refuses(t, "\x7f\x01\x41\x80\x80\x80\x80\x08\x0c", 3, 3)
	one.Refuses(t, "\x7f\x01\x41\x05\x0c", 12, 4)
	one.Refuses(t, "\x7f\x01\x0b", 12, 2)
}

// TestLongerNumbers has numbers with more bytes than they need.
func TestLongerNumbers(t *testing.T) {
	one.Takes(t, "\x7f\x00\x23\x85\x00\x0b", global(0x7f, trial.Imported(5)), 6)
	one.Takes(t, "\x7f\x00\x23\x85\x80\x80\x80\x00\x0b", global(0x7f, trial.Imported(5)), 9)
	one.Takes(t, "\x7f\x01\x41\x85\x80\x80\x80\x00\x0b", mutable(0x7f, trial.I32(5)), 9)
	one.Takes(t, "\x7f\x01\x41\xff\xff\xff\xff\x7f\x0b", mutable(0x7f, trial.I32(math.MaxUint32)), 9)
	one.Takes(t, "\x7e\x00\x42\xff\xff\xff\xff\xff\xff\xff\xff\xff\x7f\x0b", global(0x7e, trial.I64(math.MaxUint64)), 14)
}

// TestEveryByteChanged changes the bytes of globals, one at a time, to every value.
func TestEveryByteChanged(t *testing.T) {
	for _, good := range []string{
		"\x7f\x01\x41\x05\x0b",
		"\x7e\x00\x42\xc0\xbb\x78\x0b",
		"\x7f\x00\x23\x80\x01\x0b",
		"\x7e\x01\x42\x80\x80\x80\x80\x80\x80\x80\x80\x80\x7f\x0b",
		"\x7f\x00\x41\xff\xff\xff\xff\x07\x0b",
	} {
		layer.TestBytes(t, good)
	}
}

// TestAllShortGlobals tries the strings of the bytes that mean something, alone and behind a type.
func TestAllShortGlobals(t *testing.T) {
	layer.TestWords(t, "\x00\x01\x0b\x23\x41\x7e\x7f\x80", 5, "\x7f\x01")
}

func TestGetAll(t *testing.T) { layer.TestGetAll(t) }

func TestGetAllOfAnotherNumber(t *testing.T) { layer.TestGetAllOfAnotherNumber(t) }

// many are globals that differ from each other.
func many(n int) []api.Global {
	list := make([]api.Global, n)
	for at := range list {
		list[at] = api.Global{
			Type: api.GlobalType{T: 0x7f - byte(at%2), Mut: at%4 > 1},
			Init: api.Instr{Op: "\x41\x42\x23"[at%3], A: uint64(at)},
		}
	}
	return list
}

// TestMostGlobals has 10000 of them and one more.
func TestMostGlobals(t *testing.T) { layer.TestMost(t, many(10001)) }

func TestPutAll(t *testing.T) { layer.TestPutAll(t) }

func TestPutAllOfWrongOnes(t *testing.T) { layer.TestPutAllOfWrongOnes(t) }

// P12.2

// imported has imports of all kinds, of which each tells of a global, and globals at the ends and between them.
func imported() []api.Import {
	return []api.Import{
		{Module: "env", Name: "a", Kind: 3, Global: api.GlobalType{T: 0x7f}},
		{Module: "env", Name: "f", Kind: 0, Type: 1, Global: api.GlobalType{T: 0x01}},
		{Module: "env", Name: "b", Kind: 3, Global: api.GlobalType{T: 0x7e, Mut: true}},
		{Module: "env", Name: "c", Kind: 3, Global: api.GlobalType{T: 0x7e}},
		{Module: "env", Name: "t", Kind: 1, Global: api.GlobalType{T: 0x02, Mut: true}},
		{Module: "env", Name: "m", Kind: 2, Limits: api.Limits{Min: 1}, Global: api.GlobalType{T: 0x03}},
		{Module: "env", Name: "d", Kind: 3, Global: api.GlobalType{T: 0x7f, Mut: true}},
		{Module: "env", Name: "x", Kind: 4, Global: api.GlobalType{T: 0x04}},
		{Module: "env", Name: "y", Kind: 255, Global: api.GlobalType{T: 0x05}},
		{Module: "env", Name: "a", Kind: 3, Global: api.GlobalType{T: 0x7f}},
	}
}

// importedTypes are those of the globals among them.
func importedTypes() []api.GlobalType {
	return []api.GlobalType{{T: 0x7f}, {T: 0x7e, Mut: true}, {T: 0x7e}, {T: 0x7f, Mut: true}, {T: 0x7f}}
}

func TestTypes(t *testing.T) {
	own := []api.Global{mutable(0x7e, trial.I64(5)), global(0x7f, trial.Imported(0)), global(0x7e, trial.I64(6)), mutable(0x7f, trial.I32(7))}
	types := []api.GlobalType{{T: 0x7e, Mut: true}, {T: 0x7f}, {T: 0x7e}, {T: 0x7f, Mut: true}}
	all := imported()
	// None at all.
	checkTypes(t, api.Module{}, nil, nil)
	checkTypes(t, api.Module{Imports: []api.Import{}, Globals: []api.Global{}}, nil, nil)
	checkTypes(t, api.Module{Imports: slices.Concat(all[1:2], all[4:6], all[7:9])}, nil, nil)
	checkTypes(t, api.Module{
		Types:   []api.FuncType{{Params: "\x7f"}},
		Funcs:   []uint32{0},
		Exports: []api.Export{{Name: "g", Kind: 3}},
		Codes:   []api.Code{{Body: []api.Instr{trial.Imported(0), {Op: 0x0b}}}},
	}, nil, nil)
	// Those of imports alone, its own alone, and both.
	checkTypes(t, api.Module{Imports: all}, importedTypes(), importedTypes())
	checkTypes(t, api.Module{Imports: all[:1]}, importedTypes()[:1], importedTypes()[:1])
	checkTypes(t, api.Module{Imports: all[1:3]}, importedTypes()[1:2], importedTypes()[1:2])
	checkTypes(t, api.Module{Globals: own}, nil, types)
	checkTypes(t, api.Module{Globals: own[:1]}, nil, types[:1])
	checkTypes(t, api.Module{Imports: all, Globals: own}, importedTypes(), slices.Concat(importedTypes(), types))
	checkTypes(t, api.Module{Imports: all[4:6], Globals: own}, nil, types)
	checkTypes(t, api.Module{Imports: all[6:7], Globals: own[2:3]}, importedTypes()[3:4], []api.GlobalType{{T: 0x7f, Mut: true}, {T: 0x7e}})
	for n := range len(all) + 1 {
		for k := range len(own) + 1 {
			checkModule(t, api.Module{Imports: all[:n], Globals: own[:k], Start: -1})
			checkModule(t, api.Module{Imports: all[n:], Globals: own[k:]})
		}
	}
}

// TestTypesAsTheyStand: what may not be is handed on as it is, and an import of another kind than 3 is none of a global.
func TestTypesAsTheyStand(t *testing.T) {
	for b := range 256 {
		for _, mut := range []bool{false, true} {
			x := api.GlobalType{T: byte(b), Mut: mut}
			m := api.Module{
				Imports: []api.Import{{Module: "\xff", Kind: 3, Type: 9, Global: x}},
				Globals: []api.Global{{Type: x, Init: api.Instr{Op: byte(b)}}},
			}
			checkTypes(t, m, []api.GlobalType{x}, []api.GlobalType{x, x})
			m.Imports[0].Kind = byte(b)
			if b != 3 {
				checkTypes(t, m, nil, []api.GlobalType{x})
			}
		}
	}
}

// TestAllShortModules has all modules of up to three imports of five kinds and up to two globals.
func TestAllShortModules(t *testing.T) {
	for n := range 4 {
		trial.Words([]byte{0, 1, 2, 3, 4}, n, func(w []byte) {
			var m api.Module
			for at, kind := range w {
				m.Imports = append(m.Imports, api.Import{Kind: kind, Global: api.GlobalType{T: byte(at)}})
			}
			for at := range byte(3) {
				checkModule(t, m)
				m.Globals = append(m.Globals, mutable(9-at, trial.I32(0)))
			}
		})
	}
}

func TestTypesOfMany(t *testing.T) {
	m := api.Module{Globals: many(20000)}
	for at := range 20000 {
		m.Imports = append(m.Imports, api.Import{Kind: byte(at % 5), Global: api.GlobalType{T: byte(at), Mut: at%3 == 0}})
	}
	checkModule(t, m)
	if got := globals.Taken(m); len(got) != 4000 || got[3999] != (api.GlobalType{T: byte(19998 % 256), Mut: true}) {
		t.Errorf("Taken: %d", len(got))
	}
	if got := globals.Types(m); len(got) != 24000 || got[4000] != (api.GlobalType{T: 0x7f}) || got[4001] != (api.GlobalType{T: 0x7e}) {
		t.Errorf("Types: %d", len(got))
	}
}

// values are those of imported globals, two of each type.
func values() []api.Value {
	return []api.Value{{T: 0x7f, N: 4}, {T: 0x7e, N: 1 << 40}, {T: 0x7f, N: math.MaxUint32}, {T: 0x7e, N: math.MaxUint64}}
}

func TestBeginOfNone(t *testing.T) {
	for _, taken := range [][]api.Value{nil, {}, values(), {{T: 0x7d}}} {
		checkBegin(t, nil, taken, nil, 0)
		checkBegin(t, []api.Global{}, taken, nil, 0)
	}
}

// TestBeginOfConstants: they do not depend on what is taken, and not on what may change.
func TestBeginOfConstants(t *testing.T) {
	for _, taken := range [][]api.Value{nil, values(), {{T: 0x7d}}} {
		for _, n := range []uint64{0, 1, 5, 1<<31 - 1, 1 << 31, math.MaxUint32} {
			checkBegin(t, []api.Global{global(0x7f, trial.I32(n))}, taken, []api.Value{{T: 0x7f, N: n}}, 0)
			checkBegin(t, []api.Global{mutable(0x7f, trial.I32(n))}, taken, []api.Value{{T: 0x7f, N: n}}, 0)
		}
		for _, n := range []uint64{0, 1, 5, 1 << 31, math.MaxUint32, 1 << 32, 1<<63 - 1, 1 << 63, math.MaxUint64} {
			checkBegin(t, []api.Global{global(0x7e, trial.I64(n))}, taken, []api.Value{{T: 0x7e, N: n}}, 0)
			checkBegin(t, []api.Global{mutable(0x7e, trial.I64(n))}, taken, []api.Value{{T: 0x7e, N: n}}, 0)
		}
		checkBegin(t,
			[]api.Global{global(0x7e, trial.I64(9)), mutable(0x7f, trial.I32(8)), global(0x7f, trial.I32(8)), mutable(0x7e, trial.I64(7))}, taken,
			[]api.Value{{T: 0x7e, N: 9}, {T: 0x7f, N: 8}, {T: 0x7f, N: 8}, {T: 0x7e, N: 7}}, 0)
	}
}

// TestBeginOfTakenValues takes the first one, the last one, and ones that are not there.
func TestBeginOfTakenValues(t *testing.T) {
	v := values()
	checkBegin(t, []api.Global{global(0x7f, trial.Imported(0))}, v, v[:1], 0)
	checkBegin(t, []api.Global{mutable(0x7e, trial.Imported(1))}, v, v[1:2], 0)
	checkBegin(t, []api.Global{mutable(0x7f, trial.Imported(2))}, v, v[2:3], 0)
	checkBegin(t, []api.Global{global(0x7e, trial.Imported(3))}, v, v[3:], 0)
	checkBegin(t, []api.Global{global(0x7f, trial.Imported(0))}, v[:1], v[:1], 0)
	checkBegin(t,
		[]api.Global{global(0x7e, trial.Imported(3)), global(0x7f, trial.I32(6)), global(0x7f, trial.Imported(0)), global(0x7e, trial.Imported(3)), mutable(0x7f, trial.Imported(2))}, v,
		[]api.Value{v[3], {T: 0x7f, N: 6}, v[0], v[3], v[2]}, 0)
	for _, n := range []uint64{4, 5, 127, 128, 1 << 31, math.MaxUint32} {
		checkBegin(t, []api.Global{global(0x7f, trial.Imported(n))}, v, nil, 24)
		checkBegin(t, []api.Global{global(0x7f, trial.I32(6)), global(0x7e, trial.Imported(n))}, v, nil, 24)
	}
	for _, n := range []uint64{0, 1, math.MaxUint32} {
		checkBegin(t, []api.Global{global(0x7f, trial.Imported(n))}, nil, nil, 24)
		checkBegin(t, []api.Global{global(0x7f, trial.Imported(n))}, []api.Value{}, nil, 24)
	}
	checkBegin(t, []api.Global{global(0x7e, trial.Imported(3))}, v[:3], nil, 24) // what is behind a list is not there
	// A module's own globals are not among those that are taken, nor are those ahead in the list.
	checkBegin(t, []api.Global{global(0x7f, trial.I32(6)), global(0x7f, trial.Imported(0))}, nil, nil, 24)
	checkBegin(t, []api.Global{global(0x7f, trial.I32(6)), global(0x7f, trial.Imported(4))}, v, nil, 24)
	checkBegin(t, []api.Global{global(0x7e, trial.Imported(1)), global(0x7f, trial.Imported(0))}, v, []api.Value{v[1], v[0]}, 0)
}

// TestBeginOfAnotherType has all pairs of types.
func TestBeginOfAnotherType(t *testing.T) {
	checkBegin(t, []api.Global{global(0x7f, trial.I64(5))}, nil, nil, 7)
	checkBegin(t, []api.Global{mutable(0x7e, trial.I32(5))}, nil, nil, 7)
	checkBegin(t, []api.Global{global(0x7f, trial.Imported(1))}, values(), nil, 7)
	checkBegin(t, []api.Global{mutable(0x7e, trial.Imported(0))}, values(), nil, 7)
	for b := range 256 {
		for c := range 256 {
			v := []api.Value{{T: 0x7f, N: 1}, {T: byte(c), N: 5}}
			// A type that is none is held against the other one like any.
			if b == c {
				checkBegin(t, []api.Global{global(byte(b), trial.Imported(1))}, v, v[1:], 0)
			} else {
				checkBegin(t, []api.Global{global(byte(b), trial.Imported(1))}, v, nil, 7)
			}
		}
		if b != 0x7f {
			checkBegin(t, []api.Global{global(byte(b), trial.I32(5))}, values(), nil, 7)
		}
		if b != 0x7e {
			checkBegin(t, []api.Global{global(byte(b), trial.I64(5))}, values(), nil, 7)
		}
	}
}

// TestBeginOfValuesAsTheyStand: one that has too many bits for its type is handed on as it is.
func TestBeginOfValuesAsTheyStand(t *testing.T) {
	for _, n := range []uint64{1 << 32, 1<<32 + 5, 1 << 63, math.MaxUint64} {
		v := []api.Value{{T: 0x7f, N: n}}
		checkBegin(t, []api.Global{global(0x7f, trial.Imported(0))}, v, v, 0)
	}
}

// TestErrorsOfBegin has each error of an expression, for which the type does not count.
func TestErrorsOfBegin(t *testing.T) {
	v := values()
	good := global(0x7f, trial.I32(6))
	for _, x := range trial.WrongConsts() {
		for b := range 256 {
			checkBegin(t, []api.Global{mutable(byte(b), x.E)}, v, nil, x.Why)
		}
		checkBegin(t, []api.Global{good, global(0x7f, x.E), good}, v, nil, x.Why)
		checkBegin(t, []api.Global{good, good, global(0x7f, x.E)}, nil, nil, x.Why)
	}
	for op := range 256 {
		checkBegins(t, []api.Global{good, global(0x7e, trial.Plain(byte(op)))}, v)
		checkBegins(t, []api.Global{good, global(0x7f, trial.Plain(byte(op)))}, v)
	}
	// There being no such global counts ahead of the type.
	checkBegin(t, []api.Global{global(0x7d, trial.Imported(4))}, v, nil, 24)
	checkBegin(t, []api.Global{{}}, v, nil, 12)
}

// TestFirstErrorOfBegin has several errors, each once ahead of each other one.
func TestFirstErrorOfBegin(t *testing.T) {
	good := global(0x7f, trial.Imported(0))
	bad := []trial.Bad[api.Global]{
		{E: global(0x7f, trial.I64(5)), Why: 7},
		{E: global(0x7e, trial.Imported(0)), Why: 7},
		{E: global(0x7f, trial.Imported(4)), Why: 24},
		{E: global(0x7f, api.Instr{Op: 0x6a}), Why: 12},
		{E: global(0x7f, api.Instr{Op: 0x41, A: 1 << 32}), Why: 1},
		{E: global(0x7f, api.Instr{Op: 0x43}), Why: 8},
		{E: global(0x7f, api.Instr{Op: 0xff}), Why: 9},
	}
	for _, first := range bad {
		checkBegin(t, []api.Global{first.E}, values(), nil, first.Why)
		for _, second := range bad {
			checkBegin(t, []api.Global{first.E, second.E}, values(), nil, first.Why)
			checkBegin(t, []api.Global{good, first.E, good, second.E}, values(), nil, first.Why)
			checkBegin(t, []api.Global{good, good, first.E, second.E, good}, values(), nil, first.Why)
		}
	}
}

// TestBeginOfAllShortLists has all lists of up to three globals, with types and expressions that fit and that do not.
func TestBeginOfAllShortLists(t *testing.T) {
	var alphabet []api.Global
	for _, init := range []api.Instr{trial.I32(5), trial.I64(6), trial.Imported(0), trial.Imported(1), trial.Imported(2), {Op: 0x20}} {
		alphabet = append(alphabet, global(0x7f, init), mutable(0x7e, init))
	}
	for n := range 4 {
		trial.Words(alphabet, n, func(list []api.Global) {
			for k := range 4 {
				checkBegins(t, list, values()[:k])
			}
		})
	}
}

func TestBeginOfMany(t *testing.T) {
	list := make([]api.Global, 20000)
	taken := make([]api.Value, 20000)
	want := make([]api.Value, 20000)
	for at := range list {
		taken[at] = api.Value{T: 0x7e, N: uint64(at) << 32}
		list[at] = global(0x7e, trial.Imported(uint64(19999-at)))
	}
	for at := range want {
		want[at] = taken[19999-at]
	}
	checkBegin(t, list, taken, want, 0)
	checkBegin(t, list, taken[:19999], nil, 24)
	list[19999].Type.T = 0x7f
	checkBegin(t, list, taken, nil, 7)
}

// P12.3

// anyGlobal is one that may be, by chance.
func anyGlobal(next func(n int) int) api.Global {
	inits := trial.Consts()
	g := global(0x7f-byte(next(2)), inits[next(len(inits))].E)
	g.Type.Mut = next(2) == 1
	return g
}

func TestGetInvertsPut(t *testing.T) {
	layer.TestInverse(t)
	layer.ComeBack(t, many(10000))
}

// P1

func TestManyBytes(t *testing.T) { layer.TestManyBytes(t) }

// TestAnything writes, and begins with, what comes by chance.
func TestAnything(t *testing.T) {
	next := trial.Chance(7)
	bad := wrong()
	for range 6000 {
		list := make([]api.Global, next(6))
		for at := range list {
			list[at] = anyGlobal(next)
			switch next(8) {
			case 0:
				list[at].Type.T = byte(next(256))
			case 1:
				list[at].Init.Op = byte(next(256))
			case 2:
				list[at].Init.B = uint64(next(2))
			case 3:
				list[at] = bad[next(len(bad))].E
			}
			layer.AgreesOn(t, list[at])
		}
		layer.AgreesOnAll(t, list)
		checkBegins(t, list, values()[:next(5)])
		checkModule(t, api.Module{Imports: imported()[next(11):], Globals: list})
	}
}

// P2

// TestArguments looks at bytes, lists, labels and modules, and at what is behind them that there is room for.
func TestArguments(t *testing.T) {
	layer.TestArguments(t)
	labels := []uint32{1, 2, 3}
	list := []api.Global{global(0x7f, trial.Imported(0)), mutable(0x7e, trial.I64(5)), global(0x7f, api.Instr{Op: 0x0e, L: labels[:2]}), mutable(0x7e, trial.Imported(9))}
	whole := slices.Clone(list)
	imports, taken := imported(), values()
	for n := range len(list) + 1 {
		globals.PutAll(list[:n])
		globals.Begin(list[:n], taken[:n])
		globals.Begin(list[n:], taken[:n])
		globals.Types(api.Module{Imports: imports[:n], Globals: list[:n]})
		globals.Taken(api.Module{Imports: imports[:n], Globals: list[:n]})
	}
	globals.Right(list[2])
	globals.Put(list[2])
	if !slices.EqualFunc(list, whole, trial.SameGlobal) || !slices.Equal(labels, []uint32{1, 2, 3}) {
		t.Errorf("the list is %+v, the labels are %d", list, labels)
	}
	if !slices.Equal(imports, imported()) || !slices.Equal(taken, values()) {
		t.Errorf("the imports are %+v, the values %x", imports, taken)
	}
}

// TestKept spoils what was handed in: the results stay, and the next ones are those of what it is then.
func TestKept(t *testing.T) {
	layer.TestKept(t)
	m := api.Module{Imports: imported(), Globals: []api.Global{global(0x7e, trial.Imported(1)), mutable(0x7f, trial.I32(5))}}
	v := values()
	types, some := globals.Types(m), globals.Taken(m)
	first, _ := globals.Begin(m.Globals, v)
	trial.Spoil(m.Imports, api.Import{Kind: 3, Global: api.GlobalType{T: 9}})
	trial.Spoil(m.Globals, global(0x7f, trial.Imported(1)))
	trial.Spoil(v, api.Value{T: 0x7f, N: 3})
	if !slices.Equal(some, importedTypes()) || !slices.Equal(types, append(importedTypes(), api.GlobalType{T: 0x7e}, api.GlobalType{T: 0x7f, Mut: true})) {
		t.Errorf("Taken: %+v, Types: %+v", some, types)
	}
	if !slices.Equal(first, []api.Value{{T: 0x7e, N: 1 << 40}, {T: 0x7f, N: 5}}) {
		t.Errorf("Begin: %x", first)
	}
	checkModule(t, m)
	checkBegin(t, m.Globals, v, []api.Value{{T: 0x7f, N: 3}, {T: 0x7f, N: 3}}, 0)
}

// TestNew spoils results: neither the arguments nor the results of other calls change.
func TestNew(t *testing.T) {
	layer.TestNew(t)
	m := api.Module{Imports: imported(), Globals: []api.Global{global(0x7e, trial.Imported(1)), global(0x7f, trial.Imported(0)), mutable(0x7f, trial.Imported(2))}}
	v := values()
	for range 2 {
		checkModule(t, m)
		all, some := globals.Types(m), globals.Taken(m)
		trial.Spoil(some, api.GlobalType{T: 9})
		if !slices.Equal(all, modelTypes(m)) {
			t.Errorf("Types: %+v", all)
		}
		trial.Spoil(all, api.GlobalType{T: 9})
		checkBegin(t, m.Globals, v, []api.Value{v[1], v[0], v[2]}, 0)
		begun, _ := globals.Begin(m.Globals, v)
		trial.Spoil(begun, api.Value{T: 9})
	}
	if !slices.Equal(v, values()) || !slices.Equal(m.Imports, imported()) {
		t.Errorf("the values are %x", v)
	}
}

// TestCalls has calls with errors in between, also of Begin.
func TestCalls(t *testing.T) {
	layer.TestCalls(t)
	m := api.Module{Imports: imported(), Globals: []api.Global{global(0x7e, trial.Imported(1))}}
	for _, bad := range wrong() {
		globals.Begin([]api.Global{m.Globals[0], bad.E}, values())
		globals.Types(api.Module{Globals: []api.Global{bad.E}})
		checkBegin(t, m.Globals, values(), values()[1:2], 0)
		checkModule(t, m)
	}
}
