package consts_test

import (
	"bytes"
	"math"
	"slices"
	"testing"

	"creel/abort"
	"creel/api"
	"creel/consts"
	"creel/instr"
	"creel/scan"
	"creel/trial"
	"creel/types"
)

// The models are written from the chapter with numbers of their own; what the chapter leaves to layer 7, they ask of instr.

// between are the opcodes from each first to each last one of some pairs.
func between(pairs ...byte) []byte {
	var list []byte
	for at := 0; at < len(pairs); at += 2 {
		for op := int(pairs[at]); op <= int(pairs[at+1]); op++ {
			list = append(list, byte(op))
		}
	}
	return list
}

func floats() []byte {
	return between(0x2a, 0x2b, 0x38, 0x39, 0x43, 0x44, 0x5b, 0x66, 0x8b, 0xa6, 0xa8, 0xab, 0xae, 0xbf)
}

func nones() []byte {
	return between(0x06, 0x0a, 0x12, 0x19, 0x1c, 0x1f, 0x25, 0x27, 0xc0, 0xff)
}

func constants() []byte { return []byte{0x23, 0x41, 0x42} }

// modelOp is the error of an opcode, with nothing behind it that could be wrong.
func modelOp(op byte) api.Errno {
	switch {
	case slices.Contains(floats(), op):
		return 8
	case slices.Contains(nones(), op):
		return 9
	case slices.Contains(constants(), op):
		return 0
	}
	return 12
}

// plain is an instruction of an opcode, with as little behind it as may be.
func plain(op byte) api.Instr {
	i := api.Instr{Op: op}
	if op == 0x02 || op == 0x03 || op == 0x04 {
		i.A = 0x40
	}
	return i
}

// modelRight is P8.1's first sentence.
func modelRight(i api.Instr) api.Errno {
	if e := instr.Right(i); e != 0 {
		return e
	}
	return modelOp(i.Op)
}

// modelRead is P8.1's last sentence: what bytes begin with, how many they are, and the first error.
func modelRead(b []byte) (api.Instr, int, abort.Stop) {
	i, n, stop := instr.Parse(b)
	switch {
	case stop.Why != 0:
	case modelOp(i.Op) != 0:
		stop = abort.Stop{Why: 12, At: 0}
	case n == len(b):
		stop = abort.Stop{Why: 2, At: n}
	case b[n] != 11:
		stop = abort.Stop{Why: 12, At: n}
	default:
		return i, n + 1, stop
	}
	return api.Instr{}, 0, stop
}

func isZero(i api.Instr) bool { return i.Op == 0 && i.A == 0 && i.B == 0 && len(i.L) == 0 }

// numbers are those at the edges of both widths, of the types of blocks and of one byte of a varint.
var numbers = []uint64{
	0, 1, 2, 5, 63, 64, 0x40, 0x7c, 0x7d, 0x7e, 0x7f, 128, 255, 256, 256 + 0x7f, 16383, 16384,
	1<<31 - 1, 1 << 31, 1<<31 + 1, 1<<32 - 2, 1<<32 - 1, 1 << 32, 1<<32 + 1, 1<<32 + 0x40,
	1<<63 - 1, 1 << 63, 1<<63 + 1, math.MaxUint64 - 1, math.MaxUint64,
}

// expression is an instruction that may be, and its bytes.
type expression struct {
	op byte
	a  uint64
	b  string
}

func (x expression) instr() api.Instr { return api.Instr{Op: x.op, A: x.a} }

// expressions have ordinary numbers and those at the edges.
var expressions = []expression{
	{0x23, 0, "\x23\x00\x0b"},
	{0x23, 1, "\x23\x01\x0b"},
	{0x23, 11, "\x23\x0b\x0b"},
	{0x23, 64, "\x23\x40\x0b"},
	{0x23, 127, "\x23\x7f\x0b"},
	{0x23, 128, "\x23\x80\x01\x0b"},
	{0x23, 300, "\x23\xac\x02\x0b"},
	{0x23, 1<<31 - 1, "\x23\xff\xff\xff\xff\x07\x0b"},
	{0x23, 1 << 31, "\x23\x80\x80\x80\x80\x08\x0b"},
	{0x23, 1<<32 - 1, "\x23\xff\xff\xff\xff\x0f\x0b"},
	{0x41, 0, "\x41\x00\x0b"},
	{0x41, 5, "\x41\x05\x0b"},
	{0x41, 11, "\x41\x0b\x0b"},
	{0x41, 63, "\x41\x3f\x0b"},
	{0x41, 64, "\x41\xc0\x00\x0b"},
	{0x41, 127, "\x41\xff\x00\x0b"},
	{0x41, 128, "\x41\x80\x01\x0b"},
	{0x41, 1<<32 - 123456, "\x41\xc0\xbb\x78\x0b"},
	{0x41, 1<<31 - 1, "\x41\xff\xff\xff\xff\x07\x0b"},
	{0x41, 1 << 31, "\x41\x80\x80\x80\x80\x78\x0b"},
	{0x41, 1<<32 - 2, "\x41\x7e\x0b"},
	{0x41, 1<<32 - 1, "\x41\x7f\x0b"}, // -1
	{0x42, 0, "\x42\x00\x0b"},
	{0x42, 5, "\x42\x05\x0b"},
	{0x42, 11, "\x42\x0b\x0b"},
	{0x42, 127, "\x42\xff\x00\x0b"},
	{0x42, 128, "\x42\x80\x01\x0b"},
	{0x42, 1 << 31, "\x42\x80\x80\x80\x80\x08\x0b"},
	{0x42, 1<<32 - 1, "\x42\xff\xff\xff\xff\x0f\x0b"},
	{0x42, 1 << 32, "\x42\x80\x80\x80\x80\x10\x0b"},
	{0x42, 1<<63 - 1, "\x42\xff\xff\xff\xff\xff\xff\xff\xff\xff\x00\x0b"},
	{0x42, 1 << 63, "\x42\x80\x80\x80\x80\x80\x80\x80\x80\x80\x7f\x0b"},
	{0x42, math.MaxUint64 - 1, "\x42\x7e\x0b"},
	{0x42, math.MaxUint64, "\x42\x7f\x0b"}, // -1
}

// wrong are instructions that may not be, with several errors in some: the first one counts.
func wrong() []struct {
	i api.Instr
	e api.Errno
} {
	one, many := []uint32{0}, make([]uint32, 10001)
	return []struct {
		i api.Instr
		e api.Errno
	}{
		{api.Instr{}, 12},
		{api.Instr{Op: 0x0b}, 12},
		{api.Instr{Op: 0x20}, 12},
		{api.Instr{Op: 0x24}, 12},
		{api.Instr{Op: 0x6a}, 12},
		{api.Instr{Op: 0x02, A: 0x7f}, 12},
		{api.Instr{Op: 0x28, A: 2, B: 1<<32 - 1}, 12},
		{api.Instr{Op: 0x0e, A: 1, L: many[:10000]}, 12},
		{api.Instr{Op: 0x23, A: 1 << 32}, 1},
		{api.Instr{Op: 0x23, A: math.MaxUint64}, 1},
		{api.Instr{Op: 0x41, A: 1 << 32}, 1},
		{api.Instr{Op: 0x41, A: 1<<32 + 5}, 1},
		{api.Instr{Op: 0x41, A: 1 << 63}, 1},
		{api.Instr{Op: 0x41, A: math.MaxUint64}, 1},
		{api.Instr{Op: 0x23, B: 1}, 1},
		{api.Instr{Op: 0x41, B: 1}, 1},
		{api.Instr{Op: 0x42, B: 1}, 1},
		{api.Instr{Op: 0x42, B: math.MaxUint64}, 1},
		{api.Instr{Op: 0x23, L: one}, 1},
		{api.Instr{Op: 0x41, L: one}, 1},
		{api.Instr{Op: 0x42, L: one}, 1},
		{api.Instr{Op: 0x42, L: many}, 1},
		{api.Instr{Op: 0x41, A: 1 << 32, B: 1, L: one}, 1},
		// What is behind an instruction counts ahead of its being none of a constant.
		{api.Instr{Op: 0x01, A: 1}, 1},
		{api.Instr{Op: 0x0b, B: 1}, 1},
		{api.Instr{Op: 0x6a, L: one}, 1},
		{api.Instr{Op: 0x20, A: 1 << 32}, 1},
		{api.Instr{Op: 0x28, B: 1 << 32}, 1},
		{api.Instr{Op: 0x0e, L: many}, 29},
		{api.Instr{Op: 0x0e, A: 1 << 32, B: 1, L: many}, 29},
		{api.Instr{Op: 0x02}, 7},
		{api.Instr{Op: 0x02, A: 256 + 0x7f}, 7},
		{api.Instr{Op: 0x04, A: 0x7d}, 8},
		{api.Instr{Op: 0x04, A: 0x7d, B: 1}, 1},
		// The opcode counts ahead of it.
		{api.Instr{Op: 0x43, A: 1 << 32, B: 1, L: one}, 8},
		{api.Instr{Op: 0x44, L: many}, 8},
		{api.Instr{Op: 0x92, A: 1}, 8},
		{api.Instr{Op: 0x06, A: 1 << 32, B: 1, L: one}, 9},
		{api.Instr{Op: 0xd2, L: many}, 9},
		{api.Instr{Op: 0xff, A: math.MaxUint64, B: math.MaxUint64}, 9},
	}
}

// Checks.

func checkRight(t *testing.T, i api.Instr, want api.Errno) {
	t.Helper()
	if got := consts.Right(i); got != want {
		t.Errorf("Right(%x %x %x, %d labels): %d, want %d", i.Op, i.A, i.B, len(i.L), got, want)
	}
	b, e := consts.Put(i)
	if e != want {
		t.Errorf("Put(%x %x %x, %d labels): %d, want %d", i.Op, i.A, i.B, len(i.L), e, want)
	}
	if want != 0 && len(b) != 0 {
		t.Errorf("Put(%x %x %x, %d labels): % x beside an error", i.Op, i.A, i.B, len(i.L), b)
	}
}

func checkPut(t *testing.T, i api.Instr, want []byte) {
	t.Helper()
	checkRight(t, i, 0)
	if b, _ := consts.Put(i); !bytes.Equal(b, want) {
		t.Errorf("Put(%x): % x, want % x", i, b, want)
	}
}

// try reads, and returns the error with which that aborts.
func try(s *scan.Scanner) (api.Instr, abort.Stop) {
	return abort.Value(func() api.Instr { return consts.Read(s) })
}

// checkRead checks that bytes begin with an expression of so many bytes.
func checkRead(t *testing.T, b []byte, want api.Instr, n int) {
	t.Helper()
	for _, p := range trial.Places(b) {
		got, stop := try(p.S)
		if !instr.Same(got, want) || stop != (abort.Stop{}) {
			t.Errorf("Read of % x, %s: %x, %v, want %x", b, p.What, got, stop, want)
		}
		if p.S.At() != p.At+n || p.S.Left() != len(b)-n {
			t.Errorf("Read of % x, %s: then At %d and Left %d, want %d and %d", b, p.What, p.S.At(), p.S.Left(), p.At+n, len(b)-n)
		}
	}
}

// checkNoRead checks that bytes begin with no expression, and why, and where.
func checkNoRead(t *testing.T, b []byte, why api.Errno, at int) {
	t.Helper()
	for _, p := range trial.Places(b) {
		got, stop := try(p.S)
		if !isZero(got) || stop != (abort.Stop{Why: why, At: p.At + at}) {
			t.Errorf("Read of % x, %s: %x, %v, want %d at %d", b, p.What, got, stop, why, p.At+at)
		}
	}
}

// checkReadModel checks that bytes begin with an expression, or not, as the model says.
func checkReadModel(t *testing.T, b []byte) {
	t.Helper()
	want, n, stop := modelRead(b)
	if stop.Why == 0 {
		checkRead(t, b, want, n)
	} else {
		checkNoRead(t, b, stop.Why, stop.At)
	}
}

func checkType(t *testing.T, i api.Instr, taken []api.GlobalType, want byte, e api.Errno) {
	t.Helper()
	if got, gotE := consts.Type(i, taken); got != want || gotE != e {
		t.Errorf("Type(%x %x, %d globals): %x, %d, want %x, %d", i.Op, i.A, len(taken), got, gotE, want, e)
	}
}

func checkValue(t *testing.T, i api.Instr, taken []api.Value, want api.Value, e api.Errno) {
	t.Helper()
	if got, gotE := consts.Value(i, taken); got != want || gotE != e {
		t.Errorf("Value(%x %x, %d globals): %x, %d, want %x, %d", i.Op, i.A, len(taken), got, gotE, want, e)
	}
}

func checkOf(t *testing.T, v api.Value, want api.Instr, e api.Errno) {
	t.Helper()
	if got, gotE := consts.Of(v); !instr.Same(got, want) || gotE != e {
		t.Errorf("Of(%x): %x, %d, want %x, %d", v, got, gotE, want, e)
	}
}

// P8.1

func TestOpcodesThatMayBe(t *testing.T) {
	if consts.Get != 0x23 || consts.Const != 0x41 || consts.Long != 0x42 {
		t.Errorf("%x, %x, %x", consts.Get, consts.Const, consts.Long)
	}
}

// TestExample is the chapter's.
func TestExample(t *testing.T) {
	checkPut(t, api.Instr{Op: consts.Const, A: 5}, []byte{0x41, 0x05, 0x0b})
}

func TestEveryOpcode(t *testing.T) {
	for op := range 256 {
		checkRight(t, plain(byte(op)), modelOp(byte(op)))
	}
	for _, op := range constants() {
		checkPut(t, plain(op), []byte{op, 0, 0x0b})
	}
}

// TestEveryOpcodeWithNumbers has all opcodes with the edges for A and B, and with lists.
func TestEveryOpcodeWithNumbers(t *testing.T) {
	for op := range 256 {
		for _, a := range numbers {
			for _, b := range []uint64{0, 1, 1<<32 - 1, 1 << 32, math.MaxUint64} {
				for _, l := range [][]uint32{nil, {}, {0}, {1, 1<<32 - 1}} {
					i := api.Instr{Op: byte(op), A: a, B: b, L: l}
					e := modelRight(i)
					checkRight(t, i, e)
					if e == 0 {
						want, _ := instr.Put(i)
						checkPut(t, i, append(want, 11))
					}
				}
			}
		}
	}
}

func TestPut(t *testing.T) {
	for _, x := range expressions {
		checkPut(t, x.instr(), []byte(x.b))
		empty := x.instr()
		empty.L = []uint32{} // it is the same as none
		checkPut(t, empty, []byte(x.b))
	}
}

func TestWrongInstructions(t *testing.T) {
	for _, x := range wrong() {
		checkRight(t, x.i, x.e)
	}
}

func TestRead(t *testing.T) {
	for _, x := range expressions {
		checkRead(t, []byte(x.b), x.instr(), len(x.b))
	}
	// Varints that are longer than they need be.
	checkRead(t, []byte{0x23, 0x85, 0x00, 0x0b}, api.Instr{Op: 0x23, A: 5}, 4)
	checkRead(t, []byte{0x23, 0x85, 0x80, 0x80, 0x80, 0x00, 0x0b}, api.Instr{Op: 0x23, A: 5}, 7)
	checkRead(t, []byte{0x41, 0x85, 0x80, 0x80, 0x80, 0x00, 0x0b}, api.Instr{Op: 0x41, A: 5}, 7)
	checkRead(t, []byte{0x41, 0xff, 0xff, 0xff, 0xff, 0x7f, 0x0b}, api.Instr{Op: 0x41, A: 1<<32 - 1}, 7)
	checkRead(t, []byte{0x42, 0xff, 0xff, 0xff, 0xff, 0xff, 0xff, 0xff, 0xff, 0xff, 0x7f, 0x0b}, api.Instr{Op: 0x42, A: math.MaxUint64}, 12)
}

// TestReadStopsBehindTheEnd: whatever is behind it is left.
func TestReadStopsBehindTheEnd(t *testing.T) {
	for _, x := range expressions {
		for more := range 256 {
			checkRead(t, append([]byte(x.b), byte(more)), x.instr(), len(x.b))
		}
		checkRead(t, []byte(x.b+x.b+"\x80\x80"), x.instr(), len(x.b))
	}
}

func TestReadOfNoBytes(t *testing.T) {
	checkNoRead(t, nil, 2, 0)
	checkNoRead(t, []byte{}, 2, 0)
}

// TestCutOff cuts expressions off at every place: the error is at the part that is not whole.
func TestCutOff(t *testing.T) {
	for _, x := range expressions {
		last := len(x.b) - 1
		checkNoRead(t, nil, 2, 0)
		for n := 1; n < last; n++ {
			checkNoRead(t, []byte(x.b[:n]), 2, 1)
		}
		checkNoRead(t, []byte(x.b[:last]), 2, last)
	}
}

// TestReadOfEveryOpcode has all opcodes at the beginning, with what belongs behind them and without.
func TestReadOfEveryOpcode(t *testing.T) {
	for op := range 256 {
		e := modelOp(byte(op))
		if e == 0 {
			continue
		}
		b := []byte{byte(op)}
		if e == 12 {
			b, _ = instr.Put(plain(byte(op)))
		}
		checkNoRead(t, b, e, 0)
		checkNoRead(t, append(slices.Clip(b), 0x0b), e, 0)
		checkNoRead(t, append(slices.Clip(b), 0x41, 0x05, 0x0b), e, 0)
	}
	// An end alone ends nothing.
	checkNoRead(t, []byte{0x0b}, 12, 0)
	checkNoRead(t, []byte{0x0b, 0x0b}, 12, 0)
}

// TestReadOfWhatIsNoConstant: such an instruction is read whole before it is refused, so that what is wrong in it counts first.
func TestReadOfWhatIsNoConstant(t *testing.T) {
	checkNoRead(t, []byte{0x28, 0x02, 0xac, 0x02, 0x0b}, 12, 0)
	checkNoRead(t, []byte{0x0e, 0x02, 0x01, 0x00, 0x00, 0x0b}, 12, 0)
	checkNoRead(t, []byte{0x02, 0x7f, 0x0b, 0x0b}, 12, 0)
	checkNoRead(t, []byte{0x20, 0x00, 0x0c}, 12, 0)
	checkNoRead(t, []byte{0x02}, 2, 1)
	checkNoRead(t, []byte{0x02, 0x41}, 7, 1)
	checkNoRead(t, []byte{0x02, 0x7d}, 8, 1)
	checkNoRead(t, []byte{0x0e, 0x91, 0x4e}, 29, 1)
	checkNoRead(t, []byte{0x0e, 0x02, 0x01}, 2, 3)
	checkNoRead(t, []byte{0x11, 0x05, 0x01}, 10, 2)
	checkNoRead(t, []byte{0x20, 0xff, 0xff, 0xff, 0xff, 0x1f, 0x0b}, 3, 1)
	checkNoRead(t, []byte{0x28, 0x02, 0x80}, 2, 2)
	checkNoRead(t, []byte{0x3f, 0x01, 0x0b}, 10, 1)
	checkNoRead(t, []byte{0x43, 0x00, 0x00, 0x80, 0x3f, 0x0b}, 8, 0)
	checkNoRead(t, []byte{0xd2, 0x00, 0x0b}, 9, 0)
}

// TestNoEnd has every other byte where the end should be: it is no longer looked at as an instruction.
func TestNoEnd(t *testing.T) {
	for _, x := range expressions {
		last := len(x.b) - 1
		for y := range 256 {
			if y == 0x0b {
				continue
			}
			checkNoRead(t, []byte(x.b[:last]+string([]byte{byte(y)})), 12, last)
			checkNoRead(t, []byte(x.b[:last]+string([]byte{byte(y), 0x0b})), 12, last)
		}
	}
	checkNoRead(t, []byte{0x41, 0x05, 0x41, 0x06, 0x6a, 0x0b}, 12, 2)
	checkNoRead(t, []byte{0x23, 0x80, 0x01, 0x01, 0x0b}, 12, 3)
}

func TestWrongVarints(t *testing.T) {
	for _, s := range []string{
		"\x23\x80\x80\x80\x80\x10",                         // 2^32
		"\x23\xff\xff\xff\xff\x1f",                         // 2^33 - 1
		"\x23\xff\xff\xff\xff\x7f",                         // 2^35 - 1
		"\x23\x80\x80\x80\x80\x80\x00",                     // 0, in 6 bytes
		"\x41\x80\x80\x80\x80\x08",                         // 2^31
		"\x41\xff\xff\xff\xff\x0f",                         // 2^32 - 1
		"\x41\xff\xff\xff\xff\x77",                         // -2^31 - 1
		"\x41\xff\xff\xff\xff\xff\x7f",                     // -1, in 6 bytes
		"\x42\xff\xff\xff\xff\xff\xff\xff\xff\xff\x01",     // 2^64 - 1
		"\x42\x80\x80\x80\x80\x80\x80\x80\x80\x80\x01",     // 2^63
		"\x42\xff\xff\xff\xff\xff\xff\xff\xff\xff\x7e",     // -2^63 - 1
		"\x42\x80\x80\x80\x80\x80\x80\x80\x80\x80\x80\x00", // 0, in 11 bytes
	} {
		checkNoRead(t, []byte(s), 3, 1)
		checkNoRead(t, []byte(s+"\x0b"), 3, 1)
		checkNoRead(t, []byte(s+"\x0c"), 3, 1)
	}
}

// TestAllShortStrings tries those of the bytes that mean something.
func TestAllShortStrings(t *testing.T) {
	alphabet := []byte{0x00, 0x02, 0x05, 0x06, 0x0b, 0x0e, 0x23, 0x41, 0x42, 0x43, 0x6a, 0x7f, 0x80, 0xff}
	for n := range 5 {
		trial.Words(alphabet, n, func(b []byte) { checkReadModel(t, b) })
	}
}

// TestReadInTurn has expressions behind each other, read by one scanner.
func TestReadInTurn(t *testing.T) {
	var all []byte
	for _, x := range expressions {
		all = append(all, x.b...)
	}
	s := scan.Over(all)
	for _, x := range expressions {
		if got, stop := try(s); !instr.Same(got, x.instr()) || stop != (abort.Stop{}) {
			t.Errorf("Read: %x, %v, want %x", got, stop, x.instr())
		}
	}
	if got, stop := try(s); !isZero(got) || stop != (abort.Stop{Why: 2, At: len(all)}) {
		t.Errorf("Read behind the last one: %x, %v", got, stop)
	}
}

// P8.2

// TestNotRight: the error of an instruction goes ahead of there being no global.
func TestNotRight(t *testing.T) {
	for _, x := range wrong() {
		checkType(t, x.i, nil, 0, x.e)
		checkType(t, x.i, []api.GlobalType{{T: 0x7f}, {T: 0x7e, Mut: true}}, 0, x.e)
		checkValue(t, x.i, nil, api.Value{}, x.e)
		checkValue(t, x.i, []api.Value{{T: 0x7f, N: 5}, {T: 0x7e, N: 6}}, api.Value{}, x.e)
	}
	for op := range 256 {
		if e := modelOp(byte(op)); e != 0 {
			checkType(t, plain(byte(op)), []api.GlobalType{{T: 0x7f}}, 0, e)
			checkValue(t, plain(byte(op)), []api.Value{{T: 0x7f, N: 5}}, api.Value{}, e)
		}
	}
}

// TestTypeAndValueOfNumbers: they do not depend on the globals.
func TestTypeAndValueOfNumbers(t *testing.T) {
	typesOf := [][]api.GlobalType{nil, {}, {{T: 0x7c, Mut: true}}, {{T: 0x7e}, {T: 0x7f}}}
	valuesOf := [][]api.Value{nil, {}, {{T: 0x7c, N: 9}}, {{T: 0x7e, N: 8}, {T: 0x7f, N: 7}}}
	for _, x := range expressions {
		if x.op == 0x23 {
			continue
		}
		want := map[byte]byte{0x41: 0x7f, 0x42: 0x7e}[x.op]
		for at := range typesOf {
			checkType(t, x.instr(), typesOf[at], want, 0)
			checkValue(t, x.instr(), valuesOf[at], api.Value{T: want, N: x.a}, 0)
		}
	}
}

func TestTypeOfGet(t *testing.T) {
	list := []api.GlobalType{{T: 0x7f}, {T: 0x7e}, {T: 0x7f, Mut: true}, {T: 0x7e, Mut: true}, {T: 0x7e}}
	checkType(t, consts.Global(0), list, 0x7f, 0)
	checkType(t, consts.Global(1), list, 0x7e, 0)
	checkType(t, consts.Global(2), list, 0, 24)
	checkType(t, consts.Global(3), list, 0, 24)
	checkType(t, consts.Global(4), list, 0x7e, 0)
	checkType(t, consts.Global(1), list[:1], 0, 24)
	for _, n := range []uint32{5, 6, 127, 128, 1 << 31, 1<<32 - 1} {
		checkType(t, consts.Global(n), list, 0, 24)
	}
	for _, n := range []uint32{0, 1, 1<<32 - 1} {
		checkType(t, consts.Global(n), nil, 0, 24)
		checkType(t, consts.Global(n), []api.GlobalType{}, 0, 24)
	}
	// A type that is none is handed on as it is.
	for b := range 256 {
		checkType(t, consts.Global(1), []api.GlobalType{{}, {T: byte(b)}}, byte(b), 0)
		checkType(t, consts.Global(1), []api.GlobalType{{}, {T: byte(b), Mut: true}}, 0, 24)
	}
}

func TestValueOfGet(t *testing.T) {
	list := []api.Value{{T: 0x7f, N: 5}, {T: 0x7e, N: 1 << 63}, {T: 0x7f, N: 1<<32 - 1}, {T: 0x7e}, {T: 0x7e, N: math.MaxUint64}}
	for n, v := range list {
		checkValue(t, consts.Global(uint32(n)), list, v, 0)
		checkValue(t, consts.Global(uint32(n)), list[:n+1], v, 0)
		checkValue(t, consts.Global(uint32(n)), list[:n], api.Value{}, 24)
	}
	for _, n := range []uint32{5, 6, 127, 128, 1 << 31, 1<<32 - 1} {
		checkValue(t, consts.Global(n), list, api.Value{}, 24)
	}
	for _, n := range []uint32{0, 1, 1<<32 - 1} {
		checkValue(t, consts.Global(n), nil, api.Value{}, 24)
		checkValue(t, consts.Global(n), []api.Value{}, api.Value{}, 24)
	}
	// A value that isn't right is handed on as it is.
	for b := range 256 {
		for _, n := range numbers {
			v := api.Value{T: byte(b), N: n}
			checkValue(t, consts.Global(1), []api.Value{{}, v}, v, 0)
		}
	}
}

// TestGetInLongLists takes every one of as many globals as there may be, and one more.
func TestGetInLongLists(t *testing.T) {
	list := make([]api.Value, 10000)
	kinds := make([]api.GlobalType, 10000)
	for n := range list {
		list[n] = api.Value{T: 0x7e, N: uint64(n)}
		kinds[n] = api.GlobalType{T: byte(n), Mut: n%3 == 0}
	}
	for n := range list {
		checkValue(t, consts.Global(uint32(n)), list, list[n], 0)
		if n%3 == 0 {
			checkType(t, consts.Global(uint32(n)), kinds, 0, 24)
		} else {
			checkType(t, consts.Global(uint32(n)), kinds, byte(n), 0)
		}
	}
	checkValue(t, consts.Global(10000), list, api.Value{}, 24)
	checkType(t, consts.Global(10000), kinds, 0, 24)
}

func TestOf(t *testing.T) {
	for _, x := range []struct {
		v api.Value
		i api.Instr
	}{
		{api.Value{T: 0x7f, N: 0}, api.Instr{Op: 0x41, A: 0}},
		{api.Value{T: 0x7f, N: 5}, api.Instr{Op: 0x41, A: 5}},
		{api.Value{T: 0x7f, N: 1<<31 - 1}, api.Instr{Op: 0x41, A: 1<<31 - 1}},
		{api.Value{T: 0x7f, N: 1 << 31}, api.Instr{Op: 0x41, A: 1 << 31}},
		{api.Value{T: 0x7f, N: 1<<32 - 1}, api.Instr{Op: 0x41, A: 1<<32 - 1}},
		{api.Value{T: 0x7f, N: 1 << 32}, api.Instr{Op: 0x41, A: 0}},
		{api.Value{T: 0x7f, N: 1<<32 + 5}, api.Instr{Op: 0x41, A: 5}},
		{api.Value{T: 0x7f, N: 1<<63 + 1<<31}, api.Instr{Op: 0x41, A: 1 << 31}},
		{api.Value{T: 0x7f, N: math.MaxUint64}, api.Instr{Op: 0x41, A: 1<<32 - 1}},
		{api.Value{T: 0x7e, N: 0}, api.Instr{Op: 0x42, A: 0}},
		{api.Value{T: 0x7e, N: 5}, api.Instr{Op: 0x42, A: 5}},
		{api.Value{T: 0x7e, N: 1 << 31}, api.Instr{Op: 0x42, A: 1 << 31}},
		{api.Value{T: 0x7e, N: 1<<32 - 1}, api.Instr{Op: 0x42, A: 1<<32 - 1}},
		{api.Value{T: 0x7e, N: 1 << 32}, api.Instr{Op: 0x42, A: 1 << 32}},
		{api.Value{T: 0x7e, N: 1<<63 - 1}, api.Instr{Op: 0x42, A: 1<<63 - 1}},
		{api.Value{T: 0x7e, N: 1 << 63}, api.Instr{Op: 0x42, A: 1 << 63}},
		{api.Value{T: 0x7e, N: math.MaxUint64}, api.Instr{Op: 0x42, A: math.MaxUint64}},
	} {
		checkOf(t, x.v, x.i, 0)
	}
}

// TestOfOtherTypes has all bytes but two, those of floats, of functions and of nothing among them: all of them are the same error.
func TestOfOtherTypes(t *testing.T) {
	for b := range 256 {
		if b == 0x7f || b == 0x7e {
			continue
		}
		for _, n := range numbers {
			checkOf(t, api.Value{T: byte(b), N: n}, api.Instr{}, 7)
		}
	}
}

func TestGlobal(t *testing.T) {
	for _, n := range []uint32{0, 1, 127, 128, 1<<31 - 1, 1 << 31, 1<<32 - 1} {
		got := consts.Global(n)
		if !instr.Same(got, api.Instr{Op: 0x23, A: uint64(n)}) {
			t.Errorf("Global(%d): %x", n, got)
		}
		checkRight(t, got, 0)
	}
}

// P8.3

// TestValuesComeBack also has values that aren't right: they come back reduced to their type.
func TestValuesComeBack(t *testing.T) {
	right := 0
	for b := range 256 {
		for _, n := range append([]uint64{3, 77, 0x12345678, 0x123456789abcdef0}, numbers...) {
			v := api.Value{T: byte(b), N: n}
			i, e := consts.Of(v)
			if e != 0 {
				continue
			}
			if types.Right(v) {
				right++
				checkValue(t, i, nil, v, 0)
			}
			checkValue(t, i, nil, types.Cut(v), 0)
			checkType(t, i, nil, v.T, 0)
			checkRight(t, i, 0)
		}
	}
	if right < 50 {
		t.Errorf("only %d values were right", right)
	}
}

// TestExpressionsAreReadBack, with other bytes behind them.
func TestExpressionsAreReadBack(t *testing.T) {
	for _, op := range constants() {
		for _, a := range numbers {
			i := api.Instr{Op: op, A: a}
			b, e := consts.Put(i)
			if e != consts.Right(i) {
				t.Errorf("Put(%x): %d", i, e)
			}
			if e != 0 {
				continue
			}
			for _, more := range []string{"", "\x00", "\x0b", "\x7f", "\x80", "\xff", "\x92", "\x0b\x0b", "\xff\xff\xff\xff\xff\xff", string(b)} {
				checkRead(t, append(slices.Clip(b), more...), i, len(b))
			}
		}
	}
}

// P1

// TestAnything reads and asks what comes by chance: the same numbers each time.
func TestAnything(t *testing.T) {
	next := trial.Chance(1)
	list := []api.Value{{T: 0x7f, N: 5}, {T: 0x7e, N: 1 << 40}}
	for range 20000 {
		b := make([]byte, next(12))
		for at := range b {
			b[at] = byte(next(256))
		}
		if len(b) > 0 && next(2) == 0 {
			b[0] = constants()[next(3)]
		}
		checkReadModel(t, b)
		i := api.Instr{Op: byte(next(256)), A: numbers[next(len(numbers))], L: make([]uint32, next(2))}
		if e := modelRight(i); e != 0 {
			checkRight(t, i, e)
			checkValue(t, i, list, api.Value{}, e)
			checkType(t, i, []api.GlobalType{{T: 0x7f}}, 0, e)
		}
	}
}

func TestManyBytes(t *testing.T) {
	for _, x := range []byte{0x00, 0x0b, 0x23, 0x41, 0x42, 0x80, 0xff} {
		for _, lead := range []string{"", "\x23", "\x41", "\x42", "\x41\x05", "\x41\x05\x0b"} {
			b := append([]byte(lead), bytes.Repeat([]byte{x}, 1000)...)
			checkReadModel(t, b)
		}
	}
}

// P2

// TestArgumentsStay looks at bytes, labels and lists, and at what is behind them that there is room for.
func TestArgumentsStay(t *testing.T) {
	room := []byte{0x41, 0x85, 0x01, 0x0b, 0x42, 0x92, 0x0b}
	whole := slices.Clone(room)
	for n := range len(room) + 1 {
		try(scan.Over(room[:n]))
	}
	if !bytes.Equal(room, whole) {
		t.Errorf("the bytes were % x and are % x", whole, room)
	}
	labels := []uint32{1, 2, 3, 4}
	kinds := []api.GlobalType{{T: 0x7f}, {T: 0x7e, Mut: true}, {T: 0x7d}, {T: 1}}
	values := []api.Value{{T: 0x7f, N: 1 << 40}, {T: 0x7e, N: 6}, {T: 0x7d, N: 7}, {T: 1, N: 8}}
	for op := range 256 {
		for n := range 4 {
			i := api.Instr{Op: byte(op), A: uint64(n), L: labels[:n%3]}
			consts.Right(i)
			consts.Put(i)
			consts.Type(i, kinds[:n])
			consts.Value(i, values[:n])
			consts.Of(values[n])
		}
	}
	if !slices.Equal(labels, []uint32{1, 2, 3, 4}) {
		t.Errorf("the labels are %d", labels)
	}
	if !slices.Equal(kinds, []api.GlobalType{{T: 0x7f}, {T: 0x7e, Mut: true}, {T: 0x7d}, {T: 1}}) {
		t.Errorf("the globals are %v", kinds)
	}
	if !slices.Equal(values, []api.Value{{T: 0x7f, N: 1 << 40}, {T: 0x7e, N: 6}, {T: 0x7d, N: 7}, {T: 1, N: 8}}) {
		t.Errorf("the values are %v", values)
	}
}

// TestArgumentsAreNotKept changes the globals between two calls: each goes by what it is given.
func TestArgumentsAreNotKept(t *testing.T) {
	kinds := []api.GlobalType{{T: 0x7f}}
	values := []api.Value{{T: 0x7f, N: 5}}
	checkType(t, consts.Global(0), kinds, 0x7f, 0)
	checkValue(t, consts.Global(0), values, api.Value{T: 0x7f, N: 5}, 0)
	kinds[0] = api.GlobalType{T: 0x7e, Mut: true}
	values[0] = api.Value{T: 0x7e, N: 6}
	checkType(t, consts.Global(0), kinds, 0, 24)
	checkValue(t, consts.Global(0), values, api.Value{T: 0x7e, N: 6}, 0)
	b := []byte{0x41, 0x05, 0x0b}
	got, _ := try(scan.Over(b))
	clear(b)
	if !instr.Same(got, api.Instr{Op: 0x41, A: 5}) {
		t.Errorf("Read: %x", got)
	}
}

// TestResultsAreNew spoils the bytes of Put, with all that they have room for, and asks again.
func TestResultsAreNew(t *testing.T) {
	for range 3 {
		for _, x := range expressions {
			b, _ := consts.Put(x.instr())
			if string(b) != x.b {
				t.Errorf("Put(%x): % x", x.instr(), b)
			}
			trial.Spoil(b, 0xee)
		}
	}
}

// TestCallsDoNotMatter asks the same again after calls that fail.
func TestCallsDoNotMatter(t *testing.T) {
	for range 3 {
		checkRight(t, api.Instr{Op: 0x6a}, 12)
		checkNoRead(t, []byte{0x41, 0x05, 0x0c}, 12, 2)
		checkNoRead(t, []byte{0x41, 0x80}, 2, 1)
		checkType(t, consts.Global(1), []api.GlobalType{{T: 0x7f}}, 0, 24)
		checkValue(t, consts.Global(1), []api.Value{{T: 0x7f}}, api.Value{}, 24)
		checkOf(t, api.Value{T: 0x7d, N: 5}, api.Instr{}, 7)
		checkPut(t, api.Instr{Op: 0x42, A: 5}, []byte{0x42, 0x05, 0x0b})
		checkRead(t, []byte{0x23, 0x01, 0x0b}, api.Instr{Op: 0x23, A: 1}, 3)
		checkType(t, consts.Global(0), []api.GlobalType{{T: 0x7f}}, 0x7f, 0)
		checkValue(t, consts.Global(0), []api.Value{{T: 0x7f, N: 9}}, api.Value{T: 0x7f, N: 9}, 0)
		checkOf(t, api.Value{T: 0x7f, N: 5}, api.Instr{Op: 0x41, A: 5}, 0)
	}
}
