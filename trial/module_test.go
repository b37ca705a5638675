package trial_test

import (
	"strings"
	"testing"

	"creel/abort"
	"creel/api"
	"creel/trial"
)

// sample is a module with one of all that there is, and its bytes.
func sample() (api.Module, string) {
	return api.Module{
		Types:   []api.FuncType{{Params: "\x7f"}},
		Imports: []api.Import{{Module: "m", Name: "g", Kind: 3, Global: api.GlobalType{T: 0x7f}}},
		Funcs:   []uint32{0},
		Tables:  []api.Limits{{Min: 1}},
		Mems:    []api.Limits{{Min: 2, Max: 3, Bound: true}},
		Globals: []api.Global{{Type: api.GlobalType{T: 0x7f}, Init: trial.I32(5)}},
		Exports: []api.Export{{Name: "f"}},
		Start:   300,
		Elems:   []api.Elem{{Offset: trial.I32(5), Funcs: []uint32{0}}},
		Codes:   []api.Code{{Body: trial.Plains("\x0b")}},
		Datas:   []api.Data{{Offset: trial.I32(5), Bytes: "ab"}},
		Dylink:  api.Dylink{Has: true, MemSize: 7},
	}, "\x00asm\x01\x00\x00\x00" +
		"\x00\x0f\x08dylink.0\x01\x04\x07\x00\x00\x00" +
		"\x01\x05\x01\x60\x01\x7f\x00" +
		"\x02\x08\x01\x01m\x01g\x03\x7f\x00" +
		"\x03\x02\x01\x00" +
		"\x04\x04\x01\x70\x00\x01" +
		"\x05\x04\x01\x01\x02\x03" +
		"\x06\x06\x01\x7f\x00\x41\x05\x0b" +
		"\x07\x05\x01\x01f\x00\x00" +
		"\x08\x02\xac\x02" +
		"\x09\x07\x01\x00\x41\x05\x0b\x01\x00" +
		"\x0a\x04\x01\x02\x00\x0b" +
		"\x0b\x08\x01\x00\x41\x05\x0b\x02ab"
}

func TestModule(t *testing.T) {
	m, b := sample()
	if got, e := trial.ModuleBytes(m); got != b || e != 0 {
		t.Errorf("% x, %d, want % x", got, e, b)
	}
	model := trial.NewModel(b)
	if got := model.Module(); !trial.SameModule(got, m) || model.Failed() {
		t.Errorf("%+v, %v, want %+v", got, model.Stop, m)
	}
	model = trial.NewModel(trial.Head)
	if got := model.Module(); !trial.SameModule(got, api.Module{Start: -1}) || model.Failed() {
		t.Errorf("%+v, %v", got, model.Stop)
	}
}

// TestSameModule has modules that differ in one field each.
func TestSameModule(t *testing.T) {
	list := []api.Module{{}, {Start: -1}}
	m, _ := sample()
	for _, x := range []api.Module{{Types: m.Types}, {Imports: m.Imports}, {Funcs: m.Funcs}, {Tables: m.Tables}, {Mems: m.Mems}, {Globals: m.Globals}, {Exports: m.Exports}, {Elems: m.Elems}, {Codes: m.Codes}, {Datas: m.Datas}, {Dylink: m.Dylink}} {
		list = append(list, x)
	}
	checkSame(t, "SameModule", trial.SameModule, append(list, m)...)
}

// TestWrongModules has each error of a module's own, ahead of those behind it.
func TestWrongModules(t *testing.T) {
	for _, x := range []struct {
		spoil func(m *api.Module)
		why   api.Errno
	}{
		{func(m *api.Module) { m.Datas[0].Bytes = strings.Repeat("n", 1<<22) }, 13},
		{func(m *api.Module) { m.Datas[0].Offset.Op = 0x43 }, 8},
		{func(m *api.Module) { m.Codes[0].Body = trial.Plains("\x92\x0b") }, 8},
		{func(m *api.Module) { m.Codes[0].Body = nil }, 30},
		{func(m *api.Module) { m.Mems[0].Bound = false }, 1},
		{func(m *api.Module) { m.Tables = make([]api.Limits, 10001) }, 29},
		{func(m *api.Module) { m.Types[0].Params = "\x7d" }, 8},
		{func(m *api.Module) { m.Dylink.MemAlign = 21 }, 25},
		{func(m *api.Module) { m.Start = -2 }, 28},
		{func(m *api.Module) { m.Start = 1 << 32 }, 28},
		{func(m *api.Module) { m.Funcs = nil }, 11},
	} {
		m, _ := sample()
		x.spoil(&m)
		if got, e := trial.ModuleBytes(m); got != "" || e != x.why {
			t.Errorf("% x, %d, want %d", trial.Short(got), e, x.why)
		}
	}
}

// TestBrokenModules has each error of a module's bytes.
func TestBrokenModules(t *testing.T) {
	h := trial.Head
	for _, x := range []trial.Broken{
		{B: "", Why: 2, At: 0},
		{B: h[:7], Why: 2, At: 7},
		{B: h[:7] + "\x01", Why: 5, At: 0},
		{B: h + strings.Repeat("n", 1<<22-7), Why: 13, At: 0},
		{B: h + "\x0c\x00", Why: 6, At: 8},
		{B: h + "\x01\x02\x00", Why: 2, At: 10},
		{B: h + "\x00\x01\x01", Why: 2, At: 11},
		{B: h + "\x02\x01\x00\x01\x01\x00", Why: 6, At: 11},
		{B: h + "\x02\x01\x00\x00\x01\x00\x02\x01\x00", Why: 6, At: 14},
		{B: h + strings.Repeat("\x00\x01\x00", 10001), Why: 29, At: 30008},
		{B: h + "\x01\x02\x00\x00", Why: 14, At: 11},
		{B: h + "\x01\x02\x00\x00\x0c\x00", Why: 6, At: 12},
		{B: h + "\x01\x01\x01\x02\x01\x05", Why: 2, At: 11},
		{B: h + "\x03\x02\x01\x00", Why: 11, At: 12},
		{B: h + "\x08\x02\x00\x00", Why: 14, At: 11},
		{B: h + trial.Custom("dylink.0", ""), Why: 15, At: 19},
		{B: h + "\x01\x01\x00" + trial.Custom("dylink.0", "\x01\x04\x00\x00\x00\x00"), Why: 15, At: 22},
	} {
		m := trial.NewModel(x.B)
		if m.Module(); m.Stop != (abort.Stop{Why: x.Why, At: x.At}) {
			t.Errorf("% x: %v, want %d at %d", trial.Short(x.B), m.Stop, x.Why, x.At)
		}
	}
}
