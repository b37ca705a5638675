package trial

import (
	"slices"
	"strings"

	"creel/api"
)

// Opcodes of which the shape of a body is made, and one of the others.
const (
	Nop   = "\x01"
	Block = "\x02"
	Loop  = "\x03"
	If    = "\x04"
	Else  = "\x05"
	End   = "\x0b"
)

// Plains are instructions of some opcodes, each with as little behind it as may be.
func Plains(ops string) []api.Instr {
	var list []api.Instr
	for _, op := range []byte(ops) {
		list = append(list, Plain(op))
	}
	return list
}

// BodyBytes are those of instructions that may be, whether they are a body or not.
func BodyBytes(list []api.Instr) string {
	var s strings.Builder
	for _, i := range list {
		s.WriteString(InstrBytes(i))
	}
	return s.String()
}

// SameBody tells whether the instructions of two lists are equal.
func SameBody(a, b []api.Instr) bool { return slices.EqualFunc(a, b, SameInstr) }

// ShapeError is that of a list as a body: it goes through the list with a text for each block that is open, a question mark, if an else may come in it.
func ShapeError(list []api.Instr) api.Errno {
	if len(list) >= 20001 {
		return 29
	}
	var open []string
	inner := ""
	for at, i := range list {
		switch i.Op {
		case 0x02, 0x03, 0x04:
			open = append(open, inner)
			inner = ""
			if i.Op == 0x04 {
				inner = "?"
			}
		case 0x05:
			if inner != "?" {
				return 30
			}
			inner = ""
		case 0x0b:
			if len(open) == 0 {
				if at != len(list)-1 {
					return 30
				}
				return 0
			}
			inner = open[len(open)-1]
			open = open[:len(open)-1]
		}
	}
	return 30
}

// Body is the next body, which means nothing behind an error.
func (m *Model) Body() []api.Instr { return m.upToEnd(nil, 0) }

// upToEnd goes on with a list up to the end of what is open, and of the blocks inside each by calling itself: whether an else may come is known where it comes.
func (m *Model) upToEnd(list []api.Instr, elses int) []api.Instr {
	for !m.Failed() {
		start := m.At
		i := m.Instr()
		if len(list) == 20000 {
			m.Fail(29, start)
		}
		if i.Op == 0x05 && elses == 0 {
			m.Fail(30, start)
		}
		list = append(list, i)
		switch i.Op {
		case 0x02, 0x03:
			list = m.upToEnd(list, 0)
		case 0x04:
			list = m.upToEnd(list, 1)
		case 0x05:
			elses = 0
		case 0x0b:
			return list
		}
	}
	return list
}
