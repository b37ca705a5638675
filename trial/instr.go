package trial

import (
	"slices"
	"strings"

	"creel/api"
)

// Immediates has a letter for each opcode: . none, b block, n one number, l labels, i indirect, m memory, z a nought, s and S constants of 32 and of 64 bits; F for floats, and a blank for what is no instruction.
const Immediates = "" +
	"..bbb.     .nnl." + // 00
	"ni        ..    " + // 10
	"nnnnn   mmFFmmmm" + // 20
	"mmmmmmmmFFmmmmmz" + // 30
	"zsSFF..........." + // 40
	"...........FFFFF" + // 50
	"FFFFFFF........." + // 60
	"................" + // 70
	"...........FFFFF" + // 80
	"FFFFFFFFFFFFFFFF" + // 90
	"FFFFFFF.FFFF..FF" + // a0
	"FFFFFFFFFFFFFFFF" + // b0
	"                " + // c0
	"                " + // d0
	"                " + // e0
	"                " // f0

// OpError is that of an opcode.
func OpError(op byte) api.Errno {
	switch Immediates[op] {
	case 'F':
		return 8
	case ' ':
		return 9
	}
	return 0
}

// BlockError is that of a block's type.
func BlockError(a uint64) api.Errno {
	switch {
	case a == 0x40:
		return 0
	case a > 255:
		return 7
	}
	return TypeError(byte(a))
}

// InstrError is P7.1: each line is an error that may apply, in their order.
func InstrError(i api.Instr) api.Errno {
	kind := Immediates[i.Op]
	if e := OpError(i.Op); e != 0 {
		return e
	}
	if kind != 'l' && len(i.L) != 0 {
		return 1
	}
	if len(i.L) >= 10001 {
		return 29
	}
	if kind != 'm' && i.B != 0 {
		return 1
	}
	if (kind == '.' || kind == 'z') && i.A != 0 {
		return 1
	}
	if kind == 'b' {
		return BlockError(i.A)
	}
	if kind != 'S' && (i.A>>32 != 0 || i.B>>32 != 0) {
		return 1
	}
	return 0
}

// InstrBytes are those of an instruction that may be.
func InstrBytes(i api.Instr) string {
	op := string([]byte{i.Op})
	switch Immediates[i.Op] {
	case 'b':
		return op + string([]byte{byte(i.A)})
	case 'n':
		return op + Uint(i.A)
	case 'l':
		return op + Uint(len(i.L)) + labels(i.L) + Uint(i.A)
	case 'i':
		return op + Uint(i.A) + "\x00"
	case 'm':
		return op + Uint(i.A) + Uint(i.B)
	case 'z':
		return op + "\x00"
	case 's':
		return op + Int(int64(int32(i.A)))
	case 'S':
		return op + Int(int64(i.A))
	}
	return op
}

// labels are the bytes of those of an instruction, without their number.
func labels(list []uint32) string {
	var s strings.Builder
	for _, l := range list {
		s.WriteString(Uint(l))
	}
	return s.String()
}

// SameInstr tells whether two instructions are equal, a nil list and an empty one taken for the same.
func SameInstr(a, b api.Instr) bool {
	return a.Op == b.Op && a.A == b.A && a.B == b.B && slices.Equal(a.L, b.L)
}

// Instr is the next instruction, which means nothing behind an error.
func (m *Model) Instr() api.Instr {
	i := api.Instr{Op: m.Byte(OpError)}
	if m.Failed() {
		return api.Instr{}
	}
	switch Immediates[i.Op] {
	case 'b':
		i.A = uint64(m.Byte(func(t byte) api.Errno { return BlockError(uint64(t)) }))
	case 'n':
		i.A = uint64(m.Index())
	case 'l':
		for range m.Count() {
			if m.Failed() {
				break
			}
			i.L = append(i.L, m.Index())
		}
		i.A = uint64(m.Index())
	case 'i':
		i.A = uint64(m.Index())
		m.Byte(Only(0, 10))
	case 'm':
		i.A = uint64(m.Index())
		i.B = uint64(m.Index())
	case 'z':
		m.Byte(Only(0, 10))
	case 's':
		i.A = m.Varint(32, true)
	case 'S':
		i.A = m.Varint(64, true)
	}
	return i
}
