package trial

import (
	"slices"
	"strings"

	"creel/api"
)

// For each kind of elements that a section has, here is what its chapter says, with numbers of its own and asking no layer: the error of an element, the bytes of one that may be, and the next one, which means nothing behind an error.

// ImportError is P10.1's first sentence.
func ImportError(x api.Import) api.Errno {
	if e := NameError(x.Module); e != 0 {
		return e
	}
	if e := NameError(x.Name); e != 0 {
		return e
	}
	if x.Kind > 3 {
		return 43
	}
	limits := x.Limits.Min != 0 || x.Limits.Max != 0 || x.Limits.Bound
	global := x.Global.T != 0 || x.Global.Mut
	switch {
	case x.Kind != 0 && x.Type != 0,
		(x.Kind == 0 || x.Kind == 3) && limits,
		x.Kind != 3 && global,
		x.Limits.Max != 0 && !x.Limits.Bound:
		return 1
	case x.Kind == 3:
		return TypeError(x.Global.T)
	}
	return 0
}

// ImportBytes is P10.1's last sentence.
func ImportBytes(x api.Import) string {
	s := Sized(x.Module) + Sized(x.Name)
	switch x.Kind {
	case 0:
		return s + "\x00" + Uint(x.Type)
	case 1:
		return s + "\x01" + TableBytes(x.Limits)
	case 2:
		return s + "\x02" + LimitsBytes(x.Limits)
	}
	return s + "\x03" + globalTypeBytes(x.Global)
}

// Import is P10.2's first sentence.
func (m *Model) Import() api.Import {
	x := api.Import{Module: m.Name(), Name: m.Name(), Kind: m.Byte(UpTo(3, 43))}
	switch x.Kind {
	case 0:
		x.Type = m.Index()
	case 1:
		x.Limits = m.Table()
	case 2:
		x.Limits = m.Limits()
	case 3:
		x.Global = m.GlobalType()
	}
	return x
}

// LimitsError is what P17.2 says of those of tables and memories.
func LimitsError(l api.Limits) api.Errno {
	if l.Max != 0 && !l.Bound {
		return 1
	}
	return 0
}

// LimitsBytes are those of a memory.
func LimitsBytes(l api.Limits) string {
	if l.Bound {
		return "\x01" + Uint(l.Min) + Uint(l.Max)
	}
	return "\x00" + Uint(l.Min)
}

// TableBytes are those of a table.
func TableBytes(l api.Limits) string { return "\x70" + LimitsBytes(l) }

// Table is that of functions.
func (m *Model) Table() api.Limits {
	m.Byte(Only(0x70, 7))
	return m.Limits()
}

// FuncTypeError is what P4.1 says of it.
func FuncTypeError(t api.FuncType) api.Errno {
	if len(t.Params) >= 1001 || len(t.Results) >= 2 {
		return 29
	}
	for _, b := range []byte(t.Params + t.Results) {
		if e := TypeError(b); e != 0 {
			return e
		}
	}
	return 0
}

// FuncTypeBytes are those of a type that may be.
func FuncTypeBytes(t api.FuncType) string { return "\x60" + Sized(t.Params) + Sized(t.Results) }

// FuncType is what P5.2 says of it.
func (m *Model) FuncType() api.FuncType {
	from := m.At
	m.Byte(Only(0x60, 7))
	t := api.FuncType{Params: m.valTypes(), Results: m.valTypes()}
	m.Fail(FuncTypeError(t), from)
	return t
}

// valTypes are as many as are said ahead.
func (m *Model) valTypes() string {
	var b []byte
	for n := m.Count(); n > 0 && !m.Failed(); n-- {
		b = append(b, m.Byte(TypeError))
	}
	return string(b)
}

// ExportError is P11.1's first sentence.
func ExportError(x api.Export) api.Errno {
	if e := NameError(x.Name); e != 0 {
		return e
	}
	return UpTo(3, 43)(x.Kind)
}

// ExportBytes is P11.1's last sentence.
func ExportBytes(x api.Export) string {
	return Sized(x.Name) + string([]byte{x.Kind}) + Uint(x.Index)
}

// Export is P11.2's first sentence.
func (m *Model) Export() api.Export {
	var x api.Export
	x.Name = m.Name()
	x.Kind = m.Byte(UpTo(3, 43))
	x.Index = m.Index()
	return x
}

// GlobalError is P12.1's first sentence.
func GlobalError(g api.Global) api.Errno {
	if e := TypeError(g.Type.T); e != 0 {
		return e
	}
	return ConstError(g.Init)
}

// globalTypeBytes are those of a global without its beginning.
func globalTypeBytes(t api.GlobalType) string {
	if t.Mut {
		return string([]byte{t.T, 1})
	}
	return string([]byte{t.T, 0})
}

// GlobalBytes is P12.1's second sentence.
func GlobalBytes(g api.Global) string { return globalTypeBytes(g.Type) + ConstBytes(g.Init) }

// Global is P12.1's third sentence.
func (m *Model) Global() api.Global {
	var g api.Global
	g.Type = m.GlobalType()
	g.Init = m.Const()
	return g
}

// SameGlobal tells whether two are equal.
func SameGlobal(a, b api.Global) bool { return a.Type == b.Type && SameInstr(a.Init, b.Init) }

// ElemError is P13.1's first sentence.
func ElemError(x api.Elem) api.Errno {
	if len(x.Funcs) >= 10001 {
		return 29
	}
	return ConstError(x.Offset)
}

// ElemBytes is P13.1's second sentence.
func ElemBytes(x api.Elem) string {
	var s strings.Builder
	for _, f := range x.Funcs {
		s.WriteString(Uint(f))
	}
	return HeadBytes(x.Offset) + Uint(len(x.Funcs)) + s.String()
}

// Elem is P13.1's third sentence.
func (m *Model) Elem() api.Elem {
	x := api.Elem{Offset: m.Head()}
	for n := m.Count(); n > 0 && !m.Failed(); n-- {
		x.Funcs = append(x.Funcs, m.Index())
	}
	return x
}

// SameElem tells whether two are equal, a nil list and an empty one taken for the same.
func SameElem(a, b api.Elem) bool {
	return SameInstr(a.Offset, b.Offset) && slices.Equal(a.Funcs, b.Funcs)
}

// DataError is P15.1's first sentence.
func DataError(x api.Data) api.Errno {
	if len(x.Bytes) >= 4194305 {
		return 13
	}
	return ConstError(x.Offset)
}

// DataBytes is P15.1's second sentence.
func DataBytes(x api.Data) string { return HeadBytes(x.Offset) + Sized(x.Bytes) }

// Data is P15.1's third sentence.
func (m *Model) Data() api.Data {
	x := api.Data{Offset: m.Head()}
	m.Part(func(part *Model) { x.Bytes = part.Bytes(len(part.B) - part.At) })
	return x
}

// SameData tells whether two are equal.
func SameData(a, b api.Data) bool { return SameInstr(a.Offset, b.Offset) && a.Bytes == b.Bytes }
