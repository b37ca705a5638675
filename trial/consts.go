package trial

import (
	"math"

	"creel/api"
)

// I32 is the expression of a constant.
func I32(n uint64) api.Instr { return api.Instr{Op: 0x41, A: n} }

// I64 is likewise.
func I64(n uint64) api.Instr { return api.Instr{Op: 0x42, A: n} }

// Imported is the expression of an imported global.
func Imported(n uint64) api.Instr { return api.Instr{Op: 0x23, A: n} }

// ConstError is that of an instruction as a constant expression.
func ConstError(i api.Instr) api.Errno {
	if e := InstrError(i); e != 0 {
		return e
	}
	return constOp(i.Op)
}

// constOp is the error of an instruction's opcode there.
func constOp(op byte) api.Errno {
	if op == 0x23 || op == 0x41 || op == 0x42 {
		return 0
	}
	return 12
}

// ConstBytes are those of a constant expression that may be.
func ConstBytes(i api.Instr) string { return InstrBytes(i) + "\x0b" }

// Const is a constant expression, which means nothing behind an error.
func (m *Model) Const() api.Instr {
	from := m.At
	i := m.Instr()
	m.Fail(constOp(i.Op), from)
	m.Byte(Only(0x0b, 12))
	return i
}

// ConstValue is what a constant expression comes to by globals' values.
func ConstValue(i api.Instr, taken []api.Value) (api.Value, api.Errno) {
	if e := ConstError(i); e != 0 {
		return api.Value{}, e
	}
	switch {
	case i.Op == 0x41:
		return api.Value{T: 0x7f, N: i.A}, 0
	case i.Op == 0x42:
		return api.Value{T: 0x7e, N: i.A}, 0
	case i.A < uint64(len(taken)):
		return taken[i.A], 0
	}
	return api.Value{}, 24
}

// Consts are constant expressions with ordinary numbers and those at the edges.
func Consts() []Sample[api.Instr] {
	var list []Sample[api.Instr]
	for _, x := range []struct {
		op byte
		a  uint64
		b  string
	}{
		{0x23, 0, "\x23\x00\x0b"},
		{0x23, 1, "\x23\x01\x0b"},
		{0x23, 11, "\x23\x0b\x0b"},
		{0x23, 64, "\x23\x40\x0b"},
		{0x23, 127, "\x23\x7f\x0b"},
		{0x23, 128, "\x23\x80\x01\x0b"},
		{0x23, 300, "\x23\xac\x02\x0b"},
		{0x23, 1<<31 - 1, "\x23\xff\xff\xff\xff\x07\x0b"},
		{0x23, 1 << 31, "\x23\x80\x80\x80\x80\x08\x0b"},
		{0x23, 1<<32 - 1, "\x23\xff\xff\xff\xff\x0f\x0b"},
		{0x41, 0, "\x41\x00\x0b"},
		{0x41, 5, "\x41\x05\x0b"},
		{0x41, 11, "\x41\x0b\x0b"},
		{0x41, 63, "\x41\x3f\x0b"},
		{0x41, 64, "\x41\xc0\x00\x0b"},
		{0x41, 127, "\x41\xff\x00\x0b"},
		{0x41, 128, "\x41\x80\x01\x0b"},
		{0x41, 1<<32 - 123456, "\x41\xc0\xbb\x78\x0b"},
		{0x41, 1<<31 - 1, "\x41\xff\xff\xff\xff\x07\x0b"},
		{0x41, 1 << 31, "\x41\x80\x80\x80\x80\x78\x0b"},
		{0x41, 1<<32 - 2, "\x41\x7e\x0b"},
		{0x41, 1<<32 - 1, "\x41\x7f\x0b"}, // -1
		{0x42, 0, "\x42\x00\x0b"},
		{0x42, 5, "\x42\x05\x0b"},
		{0x42, 11, "\x42\x0b\x0b"},
		{0x42, 127, "\x42\xff\x00\x0b"},
		{0x42, 128, "\x42\x80\x01\x0b"},
		{0x42, 1 << 31, "\x42\x80\x80\x80\x80\x08\x0b"},
		{0x42, 1<<32 - 1, "\x42\xff\xff\xff\xff\x0f\x0b"},
		{0x42, 1 << 32, "\x42\x80\x80\x80\x80\x10\x0b"},
		{0x42, 1<<63 - 1, "\x42\xff\xff\xff\xff\xff\xff\xff\xff\xff\x00\x0b"},
		{0x42, 1 << 63, "\x42\x80\x80\x80\x80\x80\x80\x80\x80\x80\x7f\x0b"},
		{0x42, math.MaxUint64 - 1, "\x42\x7e\x0b"},
		{0x42, math.MaxUint64, "\x42\x7f\x0b"}, // -1
	} {
		list = append(list, Sample[api.Instr]{E: api.Instr{Op: x.op, A: x.a}, B: x.b})
	}
	return list
}

// WrongConsts are instructions that may not be constant expressions, with several errors in some: the first one counts.
func WrongConsts() []Bad[api.Instr] {
	one, many := []uint32{0}, make([]uint32, 10001)
	return []Bad[api.Instr]{
		{api.Instr{}, 12},
		{api.Instr{Op: 0x0b}, 12},
		{api.Instr{Op: 0x20}, 12},
		{api.Instr{Op: 0x24}, 12},
		{api.Instr{Op: 0x6a}, 12},
		{api.Instr{Op: 0x02, A: 0x7f}, 12},
		{api.Instr{Op: 0x28, A: 2, B: 1<<32 - 1}, 12},
		{api.Instr{Op: 0x0e, A: 1, L: many[:10000]}, 12},
		{api.Instr{Op: 0x23, A: 1 << 32}, 1},
		{api.Instr{Op: 0x23, A: math.MaxUint64}, 1},
		{api.Instr{Op: 0x41, A: 1 << 32}, 1},
		{api.Instr{Op: 0x41, A: 1<<32 + 5}, 1},
		{api.Instr{Op: 0x41, A: 1 << 63}, 1},
		{api.Instr{Op: 0x41, A: math.MaxUint64}, 1},
		{api.Instr{Op: 0x23, B: 1}, 1},
		{api.Instr{Op: 0x41, B: 1}, 1},
		{api.Instr{Op: 0x42, B: 1}, 1},
		{api.Instr{Op: 0x42, B: math.MaxUint64}, 1},
		{api.Instr{Op: 0x23, L: one}, 1},
		{api.Instr{Op: 0x41, L: one}, 1},
		{api.Instr{Op: 0x42, L: one}, 1},
		{api.Instr{Op: 0x42, L: many}, 1},
		{api.Instr{Op: 0x41, A: 1 << 32, B: 1, L: one}, 1},
		// What is behind an instruction counts ahead of its being none of a constant.
		{api.Instr{Op: 0x01, A: 1}, 1},
		{api.Instr{Op: 0x0b, B: 1}, 1},
		{api.Instr{Op: 0x6a, L: one}, 1},
		{api.Instr{Op: 0x20, A: 1 << 32}, 1},
		{api.Instr{Op: 0x28, B: 1 << 32}, 1},
		{api.Instr{Op: 0x0e, L: many}, 29},
		{api.Instr{Op: 0x0e, A: 1 << 32, B: 1, L: many}, 29},
		{api.Instr{Op: 0x02}, 7},
		{api.Instr{Op: 0x02, A: 256 + 0x7f}, 7},
		{api.Instr{Op: 0x04, A: 0x7d}, 8},
		{api.Instr{Op: 0x04, A: 0x7d, B: 1}, 1},
		// The opcode counts ahead of it.
		{api.Instr{Op: 0x43, A: 1 << 32, B: 1, L: one}, 8},
		{api.Instr{Op: 0x44, L: many}, 8},
		{api.Instr{Op: 0x92, A: 1}, 8},
		{api.Instr{Op: 0x06, A: 1 << 32, B: 1, L: one}, 9},
		{api.Instr{Op: 0xd2, L: many}, 9},
		{api.Instr{Op: 0xff, A: math.MaxUint64, B: math.MaxUint64}, 9},
	}
}

// BrokenConsts have what is no constant expression behind each of some leads.
func BrokenConsts(leads ...string) []Broken {
	var list []Broken
	for _, lead := range leads {
		for _, x := range brokenConsts() {
			list = append(list, Broken{lead + x.B, x.Why, len(lead) + x.At})
		}
	}
	return list
}

func brokenConsts() []Broken {
	var list []Broken
	// Every instruction that may not be there is read whole before it is refused.
	for op := range 256 {
		if e := OpError(byte(op)); e != 0 {
			list = append(list, Broken{string([]byte{byte(op)}), e, 0})
		} else if constOp(byte(op)) != 0 {
			list = append(list, Broken{InstrBytes(Plain(byte(op))), 12, 0})
		}
	}
	list = append(list,
		Broken{"\x28\x02\xac\x02", 12, 0},
		Broken{"\x0e\x02\x01\x00\x00", 12, 0},
		// What is wrong in it counts first.
		Broken{"\x02\x41", 7, 1},
		Broken{"\x02\x7d", 8, 1},
		Broken{"\x0e\x91\x4e", 29, 1},
		Broken{"\x11\x05\x01", 10, 2},
		Broken{"\x20\xff\xff\xff\xff\x1f", 3, 1},
		Broken{"\x28\x02\x80\x80\x80\x80\x80", 3, 2},
		Broken{"\x3f\x01", 10, 1},
		// More than one instruction: the second is not looked at.
		Broken{"\x41\x05\x41\x06\x6a\x0b", 12, 2},
		Broken{"\x23\x80\x01\x01\x0b", 12, 3},
	)
	list = append(list, brokenConstNumbers()...)
	for _, x := range []string{"\x23\x00", "\x41\xc0\xbb\x78", "\x42\x0b"} {
		list = append(list, BrokenBytes(Only(0x0b, 12), x)...)
	}
	return list
}

// brokenConstNumbers have numbers of too many bytes or bits.
func brokenConstNumbers() []Broken {
	list := BrokenNumbers("\x23")
	for _, s := range []string{
		"\x41\x80\x80\x80\x80\x08",                         // 2^31
		"\x41\xff\xff\xff\xff\x0f",                         // 2^32 - 1
		"\x41\xff\xff\xff\xff\x77",                         // -2^31 - 1
		"\x41\xff\xff\xff\xff\xff\x7f",                     // -1, in 6 bytes
		"\x42\xff\xff\xff\xff\xff\xff\xff\xff\xff\x01",     // 2^64 - 1
		"\x42\x80\x80\x80\x80\x80\x80\x80\x80\x80\x01",     // 2^63
		"\x42\xff\xff\xff\xff\xff\xff\xff\xff\xff\x7e",     // -2^63 - 1
		"\x42\x80\x80\x80\x80\x80\x80\x80\x80\x80\x80\x00", // 0, in 11 bytes
	} {
		list = append(list, Broken{s, 3, 1})
	}
	return list
}

// Plain is an instruction of an opcode, with as little behind it as may be.
func Plain(op byte) api.Instr {
	i := api.Instr{Op: op}
	if Immediates[op] == 'b' {
		i.A = 0x40
	}
	return i
}
