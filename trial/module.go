package trial

import (
	"slices"
	"strings"

	"creel/api"
)

// Head is what a module begins with.
const Head = "\x00asm\x01\x00\x00\x00"

// Section are the bytes of one with a number and contents.
func Section(id byte, contents string) string { return string([]byte{id}) + Sized(contents) }

// Custom are the bytes of a section with a name and contents.
func Custom(name, contents string) string { return Section(0, Sized(name)+contents) }

// ListBytes are the contents of a section with so many elements.
func ListBytes(elements ...string) string { return Uint(len(elements)) + strings.Join(elements, "") }

// listed is what a section has that lists elements: their errors, and the bytes of those that may be, by their places.
type listed struct {
	id    byte
	n     int
	wrong func(at int) api.Errno
	bytes func(at int) string
}

func list[E any](id byte, all []E, wrong func(x E) api.Errno, bytes func(x E) string) listed {
	return listed{id, len(all), func(at int) api.Errno { return wrong(all[at]) }, func(at int) string { return bytes(all[at]) }}
}

// lists are those of a module, in the order of P17.2.
func lists(m api.Module) []listed {
	none := func(uint32) api.Errno { return 0 }
	return []listed{
		list(1, m.Types, FuncTypeError, FuncTypeBytes),
		list(2, m.Imports, ImportError, ImportBytes),
		list(3, m.Funcs, none, Uint[uint32]),
		list(4, m.Tables, LimitsError, TableBytes),
		list(5, m.Mems, LimitsError, LimitsBytes),
		list(6, m.Globals, GlobalError, GlobalBytes),
		list(7, m.Exports, ExportError, ExportBytes),
		list(9, m.Elems, ElemError, ElemBytes),
		list(10, m.Codes, putError, CodeBytes),
		list(11, m.Datas, DataError, DataBytes),
	}
}

// putError is that of P14.2, which names those of an instruction last.
func putError(c api.Code) api.Errno {
	if e := CodeError(c); e != 0 {
		return e
	}
	return LateError(c)
}

// contents are the bytes of a list, or its first error.
func (l listed) contents() (string, api.Errno) {
	if l.n > 10000 {
		return "", 29
	}
	var s strings.Builder
	s.WriteString(Uint(l.n))
	for at := range l.n {
		if e := l.wrong(at); e != 0 {
			return "", e
		}
		s.WriteString(l.bytes(at))
	}
	return s.String(), 0
}

// ModuleBytes is P17.2: a module's bytes, or its first error.
func ModuleBytes(m api.Module) (string, api.Errno) {
	if len(m.Funcs) != len(m.Codes) {
		return "", 11
	}
	if int64(m.Start) < -1 || int64(m.Start) >= 4294967296 {
		return "", 28
	}
	if e := DylinkError(m.Dylink); e != 0 {
		return "", e
	}
	s := Head
	if m.Dylink.Has {
		s += Custom("dylink.0", DylinkBytes(m.Dylink))
	}
	for _, l := range lists(m) {
		if l.id == 9 && m.Start != -1 {
			s += Section(8, Uint(m.Start))
		}
		b, e := l.contents()
		if e != 0 {
			return "", e
		}
		if l.n > 0 {
			s += Section(l.id, b)
		}
	}
	if len(s) >= 4194305 {
		return "", 13
	}
	return s, 0
}

// section is one, and where its contents stand among all bytes; those of a custom one behind its name.
type section struct {
	id   byte
	name string
	from int
	to   int
}

// sections are P9.2: all that a module has.
func (m *Model) sections() []section {
	if len(m.B) >= 4194305 {
		m.Fail(13, 0)
	}
	if len(m.B) < 8 {
		m.Fail(2, len(m.B))
	} else if m.Bytes(8) != Head {
		m.Fail(5, 0)
	}
	var all []section
	last := byte(0)
	for m.At < len(m.B) && !m.Failed() {
		at := m.At
		x := m.section()
		if x.id != 0 && x.id <= last {
			m.Fail(6, at)
		}
		if len(all) == 10000 {
			m.Fail(29, at)
		}
		last = max(last, x.id)
		all = append(all, x)
	}
	return all
}

// section is P9.1: the next one.
func (m *Model) section() section {
	x := section{id: m.Byte(UpTo(11, 6))}
	m.Part(func(part *Model) {
		if x.id == 0 {
			x.name = part.Name()
		}
		x.from, x.to = part.At, len(part.B)
	})
	return x
}

// Module is P17.1: the one that all bytes are, which means nothing behind an error.
func (m *Model) Module() api.Module {
	all := m.sections()
	x := api.Module{Start: -1}
	for n, s := range all {
		if !m.Failed() {
			part := &Model{B: m.B[:s.to], At: s.from}
			part.contents(&x, s, n == 0)
			m.Stop = part.Stop
		}
	}
	if len(x.Funcs) != len(x.Codes) {
		m.Fail(11, len(m.B))
	}
	return x
}

// contents are those of a section.
func (m *Model) contents(x *api.Module, s section, first bool) {
	switch s.id {
	case 0:
		if s.name != "dylink.0" {
			return
		}
		if !first {
			m.Fail(15, m.At)
		}
		x.Dylink = m.Dylink()
	case 1:
		x.Types = List(m, (*Model).FuncType)
	case 2:
		x.Imports = List(m, (*Model).Import)
	case 3:
		x.Funcs = List(m, (*Model).Index)
	case 4:
		x.Tables = List(m, (*Model).Table)
	case 5:
		x.Mems = List(m, (*Model).Limits)
	case 6:
		x.Globals = List(m, (*Model).Global)
	case 7:
		x.Exports = List(m, (*Model).Export)
	case 8:
		x.Start = int(m.Index())
		m.End()
	case 9:
		x.Elems = List(m, (*Model).Elem)
	case 10:
		x.Codes = List(m, (*Model).Code)
	case 11:
		x.Datas = List(m, (*Model).Data)
	}
}

// SameModule tells whether two are equal, nil lists and empty ones taken for the same.
func SameModule(a, b api.Module) bool {
	return slices.Equal(a.Types, b.Types) &&
		slices.Equal(a.Imports, b.Imports) &&
		slices.Equal(a.Funcs, b.Funcs) &&
		slices.Equal(a.Tables, b.Tables) &&
		slices.Equal(a.Mems, b.Mems) &&
		slices.EqualFunc(a.Globals, b.Globals, SameGlobal) &&
		slices.Equal(a.Exports, b.Exports) &&
		a.Start == b.Start &&
		slices.EqualFunc(a.Elems, b.Elems, SameElem) &&
		slices.EqualFunc(a.Codes, b.Codes, SameCode) &&
		slices.EqualFunc(a.Datas, b.Datas, SameData) &&
		SameDylink(a.Dylink, b.Dylink)
}
