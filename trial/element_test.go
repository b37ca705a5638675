package trial_test

import (
	"testing"

	"creel/api"
	"creel/trial"
)

// checkSame checks that all of some elements differ, and that each is the same as itself.
func checkSame[E any](t *testing.T, name string, same func(a, b E) bool, list ...E) {
	t.Helper()
	for x, a := range list {
		for y, b := range list {
			if got := same(a, b); got != (x == y) {
				t.Errorf("%s(%+v, %+v): %t", name, a, b, got)
			}
		}
	}
}

// TestSame has elements that differ in one field each.
func TestSame(t *testing.T) {
	i := api.Instr{Op: 1}
	checkSame(t, "SameGlobal", trial.SameGlobal, api.Global{}, api.Global{Type: api.GlobalType{T: 1}}, api.Global{Type: api.GlobalType{Mut: true}}, api.Global{Init: i})
	checkSame(t, "SameElem", trial.SameElem, api.Elem{}, api.Elem{Offset: i}, api.Elem{Funcs: []uint32{0}}, api.Elem{Funcs: []uint32{1}}, api.Elem{Funcs: []uint32{0, 1}})
	checkSame(t, "SameData", trial.SameData, api.Data{}, api.Data{Offset: i}, api.Data{Bytes: "\x00"}, api.Data{Bytes: "a"})
	checkSame(t, "SameCode", trial.SameCode, api.Code{}, api.Code{Body: []api.Instr{i}}, api.Code{Body: []api.Instr{i, i}}, api.Code{Locals: []api.Local{{N: 1}}}, api.Code{Locals: []api.Local{{T: 1}}})
	checkSame(t, "SameDylink", trial.SameDylink, api.Dylink{}, api.Dylink{Has: true}, api.Dylink{MemSize: 1}, api.Dylink{MemAlign: 1}, api.Dylink{TableSize: 1}, api.Dylink{TableAlign: 1}, api.Dylink{Needed: []string{""}}, api.Dylink{Needed: []string{"a"}})
	if !trial.SameElem(api.Elem{}, api.Elem{Funcs: []uint32{}}) || !trial.SameCode(api.Code{}, api.Code{Locals: []api.Local{}, Body: []api.Instr{}}) || !trial.SameDylink(api.Dylink{}, api.Dylink{Needed: []string{}}) {
		t.Errorf("an empty list is not the same as none")
	}
}

// checkElement checks the bytes of an element that may be, that they are read as it, and that each beginning of them ends too early.
func checkElement[E any](t *testing.T, x E, b string, wrong func(x E) api.Errno, write func(x E) string, read func(m *trial.Model) E, same func(a, b E) bool) {
	t.Helper()
	if e, got := wrong(x), write(x); e != 0 || got != b {
		t.Errorf("%+v: %d, % x, want % x", x, e, got, b)
	}
	m := trial.NewModel(b + "\x00")
	if got := read(m); !same(got, x) || m.Failed() || m.At != len(b) {
		t.Errorf("% x: %+v, %v, At %d, want %+v", b, got, m.Stop, m.At, x)
	}
	for n := range len(b) {
		m := trial.NewModel(b[:n])
		if read(m); m.Stop.Why != 2 {
			t.Errorf("% x: %v", b[:n], m.Stop)
		}
	}
}

func equal[E comparable](a, b E) bool { return a == b }

// TestElements has one of each kind.
func TestElements(t *testing.T) {
	for _, x := range []trial.Sample[api.Import]{
		{E: api.Import{Module: "env", Name: "f", Type: 300}, B: "\x03env\x01f\x00\xac\x02"},
		{E: api.Import{Kind: 1, Limits: api.Limits{Min: 1, Max: 2, Bound: true}}, B: "\x00\x00\x01\x70\x01\x01\x02"},
		{E: api.Import{Kind: 2, Limits: api.Limits{Min: 1}}, B: "\x00\x00\x02\x00\x01"},
		{E: api.Import{Kind: 3, Global: api.GlobalType{T: 0x7e, Mut: true}}, B: "\x00\x00\x03\x7e\x01"},
	} {
		checkElement(t, x.E, x.B, trial.ImportError, trial.ImportBytes, (*trial.Model).Import, equal)
	}
	checkElement(t, api.Limits{Min: 300}, "\x00\xac\x02", trial.LimitsError, trial.LimitsBytes, (*trial.Model).Limits, equal)
	checkElement(t, api.Limits{Min: 3, Max: 2, Bound: true}, "\x70\x01\x03\x02", trial.LimitsError, trial.TableBytes, (*trial.Model).Table, equal)
	checkElement(t, api.FuncType{Params: "\x7f\x7e", Results: "\x7e"}, "\x60\x02\x7f\x7e\x01\x7e", trial.FuncTypeError, trial.FuncTypeBytes, (*trial.Model).FuncType, equal)
	checkElement(t, api.Export{Name: "f", Kind: 2, Index: 300}, "\x01f\x02\xac\x02", trial.ExportError, trial.ExportBytes, (*trial.Model).Export, equal)
	checkElement(t, api.Global{Type: api.GlobalType{T: 0x7f}, Init: trial.I32(5)}, "\x7f\x00\x41\x05\x0b", trial.GlobalError, trial.GlobalBytes, (*trial.Model).Global, trial.SameGlobal)
	checkElement(t, api.Elem{Offset: trial.I32(5), Funcs: []uint32{1, 300}}, "\x00\x41\x05\x0b\x02\x01\xac\x02", trial.ElemError, trial.ElemBytes, (*trial.Model).Elem, trial.SameElem)
	checkElement(t, api.Data{Offset: trial.I32(5), Bytes: "ab"}, "\x00\x41\x05\x0b\x02ab", trial.DataError, trial.DataBytes, (*trial.Model).Data, trial.SameData)
	checkElement(t, api.Code{Locals: []api.Local{{N: 300, T: 0x7e}}, Body: trial.Plains("\x01\x0b")}, "\x06\x01\xac\x02\x7e\x01\x0b", trial.CodeError, trial.CodeBytes, (*trial.Model).Code, trial.SameCode)
}

// TestDylink has what is read to its end, so that its beginnings may be right, too.
func TestDylink(t *testing.T) {
	d := api.Dylink{Has: true, MemSize: 300, MemAlign: 4, TableSize: 3, TableAlign: 2, Needed: []string{"a", ""}}
	b := "\x01\x05\xac\x02\x04\x03\x02\x02\x04\x02\x01a\x00"
	if e, got := trial.DylinkError(d), trial.DylinkBytes(d); e != 0 || got != b {
		t.Errorf("%d, % x, want % x", e, got, b)
	}
	for n := range len(b) + 1 {
		m := trial.NewModel(b[:n])
		got := m.Dylink()
		switch n {
		case 7:
			d := d
			d.Needed = nil
			if !trial.SameDylink(got, d) || m.Failed() {
				t.Errorf("% x: %+v, %v", b[:n], got, m.Stop)
			}
		case len(b):
			if !trial.SameDylink(got, d) || m.Failed() {
				t.Errorf("% x: %+v, %v", b, got, m.Stop)
			}
		default:
			if !m.Failed() {
				t.Errorf("% x: %+v", b[:n], got)
			}
		}
	}
}

// TestWrongElements has each error that an element's chapter names beside those of others.
func TestWrongElements(t *testing.T) {
	long := make([]byte, 1001)
	for at := range long {
		long[at] = 0x7f
	}
	for n, x := range []struct{ got, want api.Errno }{
		{trial.ImportError(api.Import{Module: "\xff", Kind: 4}), 4},
		{trial.ImportError(api.Import{Name: "\xff", Kind: 4}), 4},
		{trial.ImportError(api.Import{Kind: 4, Type: 1}), 43},
		{trial.ImportError(api.Import{Kind: 1, Type: 1}), 1},
		{trial.ImportError(api.Import{Kind: 1, Limits: api.Limits{Max: 1}}), 1},
		{trial.ImportError(api.Import{Limits: api.Limits{Bound: true}}), 1},
		{trial.ImportError(api.Import{Global: api.GlobalType{Mut: true}}), 1},
		{trial.ImportError(api.Import{Kind: 3, Global: api.GlobalType{T: 0x7d}}), 8},
		{trial.LimitsError(api.Limits{Max: 1}), 1},
		{trial.LimitsError(api.Limits{Max: 1, Bound: true}), 0},
		{trial.FuncTypeError(api.FuncType{Params: string(long)}), 29},
		{trial.FuncTypeError(api.FuncType{Params: string(long[:1000])}), 0},
		{trial.FuncTypeError(api.FuncType{Params: "\x7d", Results: "\x7f\x7f"}), 29},
		{trial.FuncTypeError(api.FuncType{Params: "\x7f\x7d", Results: "\x70"}), 8},
		{trial.FuncTypeError(api.FuncType{Results: "\x70"}), 7},
		{trial.ExportError(api.Export{Name: "\xff", Kind: 4}), 4},
		{trial.ExportError(api.Export{Kind: 4}), 43},
		{trial.GlobalError(api.Global{Type: api.GlobalType{T: 0x7c}}), 8},
		{trial.GlobalError(api.Global{Type: api.GlobalType{T: 0x7f}}), 12},
		{trial.ElemError(api.Elem{Funcs: make([]uint32, 10001)}), 29},
		{trial.ElemError(api.Elem{Funcs: make([]uint32, 10000)}), 12},
		{trial.DataError(api.Data{Bytes: string(make([]byte, 1<<22+1))}), 13},
		{trial.DataError(api.Data{Bytes: string(make([]byte, 1<<22))}), 12},
		{trial.CodeError(api.Code{Locals: make([]api.Local, 10001)}), 29},
		{trial.CodeError(api.Code{Locals: []api.Local{{N: 1001, T: 0x70}}}), 23},
		{trial.CodeError(api.Code{Locals: []api.Local{{N: 1000, T: 0x70}}}), 7},
		{trial.CodeError(api.Code{}), 30},
		{trial.LateError(api.Code{Body: []api.Instr{{Op: 0x41}, {Op: 0x43}}}), 8},
		{trial.DylinkError(api.Dylink{MemSize: 1}), 15},
		{trial.DylinkError(api.Dylink{Needed: []string{"a"}}), 15},
		{trial.DylinkError(api.Dylink{}), 0},
		{trial.DylinkError(api.Dylink{Has: true, MemAlign: 21, Needed: make([]string, 201)}), 25},
		{trial.DylinkError(api.Dylink{Has: true, TableAlign: 21, MemAlign: 20}), 25},
		{trial.DylinkError(api.Dylink{Has: true, Needed: make([]string, 201)}), 29},
		{trial.DylinkError(api.Dylink{Has: true, Needed: make([]string, 200)}), 27},
		{trial.DylinkError(api.Dylink{Has: true, Needed: []string{"a", "\xff", "\xff"}}), 4},
	} {
		if x.got != x.want {
			t.Errorf("%d: %d, want %d", n, x.got, x.want)
		}
	}
}
