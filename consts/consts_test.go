package consts_test

import (
	"bytes"
	"math"
	"slices"
	"testing"

	"creel/abort"
	"creel/api"
	"creel/consts"
	"creel/scan"
	"creel/trial"
	"creel/types"
)

func constants() []byte { return []byte{0x23, 0x41, 0x42} }

// opError is that of an opcode, with nothing behind it that could be wrong.
func opError(op byte) api.Errno { return trial.ConstError(trial.Plain(op)) }

// numbers are those at the edges of both widths, of the types of blocks and of one byte of a varint.
var numbers = []uint64{
	0, 1, 2, 5, 63, 64, 0x40, 0x7c, 0x7d, 0x7e, 0x7f, 128, 255, 256, 256 + 0x7f, 16383, 16384,
	1<<31 - 1, 1 << 31, 1<<31 + 1, 1<<32 - 2, 1<<32 - 1, 1 << 32, 1<<32 + 1, 1<<32 + 0x40,
	1<<63 - 1, 1 << 63, 1<<63 + 1, math.MaxUint64 - 1, math.MaxUint64,
}

// Checks.

func checkRight(t *testing.T, i api.Instr, want api.Errno) {
	t.Helper()
	if got := consts.Right(i); got != want {
		t.Errorf("Right(%x %x %x, %d labels): %d, want %d", i.Op, i.A, i.B, len(i.L), got, want)
	}
	b, e := consts.Put(i)
	if e != want {
		t.Errorf("Put(%x %x %x, %d labels): %d, want %d", i.Op, i.A, i.B, len(i.L), e, want)
	}
	if want != 0 && len(b) != 0 {
		t.Errorf("Put(%x %x %x, %d labels): % x beside an error", i.Op, i.A, i.B, len(i.L), b)
	}
}

func checkPut(t *testing.T, i api.Instr, want []byte) {
	t.Helper()
	checkRight(t, i, 0)
	if b, _ := consts.Put(i); !bytes.Equal(b, want) {
		t.Errorf("Put(%x): % x, want % x", i, b, want)
	}
}

// read is the reader of an expression.
var read = trial.Reader[api.Instr]{
	Name:  "Read",
	Read:  consts.Read,
	Model: (*trial.Model).Const,
	Same:  trial.SameInstr,
	Tell:  func(i api.Instr) any { return i },
}

// try reads, and returns the error with which that aborts.
func try(s *scan.Scanner) (api.Instr, abort.Stop) {
	return abort.Value(func() api.Instr { return consts.Read(s) })
}

// checkRead checks that bytes begin with an expression of so many bytes.
func checkRead(t *testing.T, b []byte, want api.Instr, n int) {
	t.Helper()
	read.Takes(t, string(b), want, n)
}

// checkNoRead checks that bytes begin with no expression, and why, and where.
func checkNoRead(t *testing.T, b []byte, why api.Errno, at int) {
	t.Helper()
	read.Refuses(t, string(b), why, at)
}

func checkType(t *testing.T, i api.Instr, taken []api.GlobalType, want byte, e api.Errno) {
	t.Helper()
	if got, gotE := consts.Type(i, taken); got != want || gotE != e {
		t.Errorf("Type(%x %x, %d globals): %x, %d, want %x, %d", i.Op, i.A, len(taken), got, gotE, want, e)
	}
}

func checkValue(t *testing.T, i api.Instr, taken []api.Value, want api.Value, e api.Errno) {
	t.Helper()
	if got, gotE := consts.Value(i, taken); got != want || gotE != e {
		t.Errorf("Value(%x %x, %d globals): %x, %d, want %x, %d", i.Op, i.A, len(taken), got, gotE, want, e)
	}
}

func checkOf(t *testing.T, v api.Value, want api.Instr, e api.Errno) {
	t.Helper()
	if got, gotE := consts.Of(v); !trial.SameInstr(got, want) || gotE != e {
		t.Errorf("Of(%x): %x, %d, want %x, %d", v, got, gotE, want, e)
	}
}

// P8.1

func TestOpcodesThatMayBe(t *testing.T) {
	if consts.Get != 0x23 || consts.Const != 0x41 || consts.Long != 0x42 {
		t.Errorf("%x, %x, %x", consts.Get, consts.Const, consts.Long)
	}
}

// TestExample is the chapter's.
func TestExample(t *testing.T) {
	checkPut(t, api.Instr{Op: consts.Const, A: 5}, []byte{0x41, 0x05, 0x0b})
}

func TestEveryOpcode(t *testing.T) {
	for op := range 256 {
		checkRight(t, trial.Plain(byte(op)), opError(byte(op)))
	}
	for _, op := range constants() {
		checkPut(t, trial.Plain(op), []byte{op, 0, 0x0b})
	}
}

// TestEveryOpcodeWithNumbers has all opcodes with the edges for A and B, and with lists.
func TestEveryOpcodeWithNumbers(t *testing.T) {
	for op := range 256 {
		for _, a := range numbers {
			for _, b := range []uint64{0, 1, 1<<32 - 1, 1 << 32, math.MaxUint64} {
				for _, l := range [][]uint32{nil, {}, {0}, {1, 1<<32 - 1}} {
					i := api.Instr{Op: byte(op), A: a, B: b, L: l}
					e := trial.ConstError(i)
					checkRight(t, i, e)
					if e == 0 {
						checkPut(t, i, []byte(trial.ConstBytes(i)))
					}
				}
			}
		}
	}
}

func TestPut(t *testing.T) {
	for _, x := range trial.Consts() {
		checkPut(t, x.E, []byte(x.B))
		empty := x.E
		empty.L = []uint32{} // it is the same as none
		checkPut(t, empty, []byte(x.B))
	}
}

func TestWrongInstructions(t *testing.T) {
	for _, x := range trial.WrongConsts() {
		checkRight(t, x.E, x.Why)
	}
}

func TestRead(t *testing.T) {
	for _, x := range trial.Consts() {
		checkRead(t, []byte(x.B), x.E, len(x.B))
	}
	// Varints that are longer than they need be.
	checkRead(t, []byte{0x23, 0x85, 0x00, 0x0b}, api.Instr{Op: 0x23, A: 5}, 4)
	checkRead(t, []byte{0x23, 0x85, 0x80, 0x80, 0x80, 0x00, 0x0b}, api.Instr{Op: 0x23, A: 5}, 7)
	checkRead(t, []byte{0x41, 0x85, 0x80, 0x80, 0x80, 0x00, 0x0b}, api.Instr{Op: 0x41, A: 5}, 7)
	checkRead(t, []byte{0x41, 0xff, 0xff, 0xff, 0xff, 0x7f, 0x0b}, api.Instr{Op: 0x41, A: 1<<32 - 1}, 7)
	checkRead(t, []byte{0x42, 0xff, 0xff, 0xff, 0xff, 0xff, 0xff, 0xff, 0xff, 0xff, 0x7f, 0x0b}, api.Instr{Op: 0x42, A: math.MaxUint64}, 12)
}

// TestReadStopsBehindTheEnd: whatever is behind it is left.
func TestReadStopsBehindTheEnd(t *testing.T) {
	for _, x := range trial.Consts() {
		for more := range 256 {
			checkRead(t, append([]byte(x.B), byte(more)), x.E, len(x.B))
		}
		checkRead(t, []byte(x.B+x.B+"\x80\x80"), x.E, len(x.B))
	}
}

func TestReadOfNoBytes(t *testing.T) {
	checkNoRead(t, nil, 2, 0)
	checkNoRead(t, []byte{}, 2, 0)
}

// TestCutOff cuts expressions off at every place: the error is at the part that is not whole.
func TestCutOff(t *testing.T) {
	for _, x := range trial.Consts() {
		last := len(x.B) - 1
		checkNoRead(t, nil, 2, 0)
		for n := 1; n < last; n++ {
			checkNoRead(t, []byte(x.B[:n]), 2, 1)
		}
		checkNoRead(t, []byte(x.B[:last]), 2, last)
	}
}

// TestBroken has what begins with no expression, whatever follows: all opcodes that may not be there, other bytes than the end, and numbers that are none.
func TestBroken(t *testing.T) {
	for _, x := range trial.BrokenConsts("") {
		for _, more := range []string{"", "\x0b", "\x0c", "\x41\x05\x0b"} {
			read.Refuses(t, x.B+more, x.Why, x.At)
		}
	}
	// An end alone ends nothing.
	read.Refuses(t, "\x0b", 12, 0)
	read.Refuses(t, "\x0b\x0b", 12, 0)
}

// TestReadOfWhatIsNoConstant: such an instruction is read whole before it is refused, so that what is wrong in it counts first.
func TestReadOfWhatIsNoConstant(t *testing.T) {
	checkNoRead(t, []byte{0x28, 0x02, 0xac, 0x02, 0x0b}, 12, 0)
	checkNoRead(t, []byte{0x0e, 0x02, 0x01, 0x00, 0x00, 0x0b}, 12, 0)
	checkNoRead(t, []byte{0x02, 0x7f, 0x0b, 0x0b}, 12, 0)
	checkNoRead(t, []byte{0x20, 0x00, 0x0c}, 12, 0)
	checkNoRead(t, []byte{0x02}, 2, 1)
	checkNoRead(t, []byte{0x02, 0x41}, 7, 1)
	checkNoRead(t, []byte{0x02, 0x7d}, 8, 1)
	checkNoRead(t, []byte{0x0e, 0x91, 0x4e}, 29, 1)
	checkNoRead(t, []byte{0x0e, 0x02, 0x01}, 2, 3)
	checkNoRead(t, []byte{0x11, 0x05, 0x01}, 10, 2)
	checkNoRead(t, []byte{0x20, 0xff, 0xff, 0xff, 0xff, 0x1f, 0x0b}, 3, 1)
	checkNoRead(t, []byte{0x28, 0x02, 0x80}, 2, 2)
	checkNoRead(t, []byte{0x3f, 0x01, 0x0b}, 10, 1)
	checkNoRead(t, []byte{0x43, 0x00, 0x00, 0x80, 0x3f, 0x0b}, 8, 0)
	checkNoRead(t, []byte{0xd2, 0x00, 0x0b}, 9, 0)
}

// TestNoEnd has every other byte where the end should be: it is no longer looked at as an instruction.
func TestNoEnd(t *testing.T) {
	for _, x := range trial.Consts() {
		last := len(x.B) - 1
		for y := range 256 {
			if y == 0x0b {
				continue
			}
			checkNoRead(t, []byte(x.B[:last]+string([]byte{byte(y)})), 12, last)
			checkNoRead(t, []byte(x.B[:last]+string([]byte{byte(y), 0x0b})), 12, last)
		}
	}
	checkNoRead(t, []byte{0x41, 0x05, 0x41, 0x06, 0x6a, 0x0b}, 12, 2)
	checkNoRead(t, []byte{0x23, 0x80, 0x01, 0x01, 0x0b}, 12, 3)
}

// TestAllShortStrings tries those of the bytes that mean something.
func TestAllShortStrings(t *testing.T) {
	alphabet := []byte{0x00, 0x02, 0x05, 0x06, 0x0b, 0x0e, 0x23, 0x41, 0x42, 0x43, 0x6a, 0x7f, 0x80, 0xff}
	for n := range 5 {
		trial.Words(alphabet, n, func(b []byte) { read.Agrees(t, string(b)) })
	}
}

// TestReadInTurn has expressions behind each other, read by one scanner.
func TestReadInTurn(t *testing.T) {
	var all []byte
	for _, x := range trial.Consts() {
		all = append(all, x.B...)
	}
	s := scan.Over(all)
	for _, x := range trial.Consts() {
		if got, stop := try(s); !trial.SameInstr(got, x.E) || stop != (abort.Stop{}) {
			t.Errorf("Read: %x, %v, want %x", got, stop, x.E)
		}
	}
	if got, stop := try(s); !trial.SameInstr(got, api.Instr{}) || stop != (abort.Stop{Why: 2, At: len(all)}) {
		t.Errorf("Read behind the last one: %x, %v", got, stop)
	}
}

// P8.2

// TestNotRight: the error of an instruction goes ahead of there being no global.
func TestNotRight(t *testing.T) {
	for _, x := range trial.WrongConsts() {
		checkType(t, x.E, nil, 0, x.Why)
		checkType(t, x.E, []api.GlobalType{{T: 0x7f}, {T: 0x7e, Mut: true}}, 0, x.Why)
		checkValue(t, x.E, nil, api.Value{}, x.Why)
		checkValue(t, x.E, []api.Value{{T: 0x7f, N: 5}, {T: 0x7e, N: 6}}, api.Value{}, x.Why)
	}
	for op := range 256 {
		if e := opError(byte(op)); e != 0 {
			checkType(t, trial.Plain(byte(op)), []api.GlobalType{{T: 0x7f}}, 0, e)
			checkValue(t, trial.Plain(byte(op)), []api.Value{{T: 0x7f, N: 5}}, api.Value{}, e)
		}
	}
}

// TestTypeAndValueOfNumbers: they do not depend on the globals.
func TestTypeAndValueOfNumbers(t *testing.T) {
	typesOf := [][]api.GlobalType{nil, {}, {{T: 0x7c, Mut: true}}, {{T: 0x7e}, {T: 0x7f}}}
	valuesOf := [][]api.Value{nil, {}, {{T: 0x7c, N: 9}}, {{T: 0x7e, N: 8}, {T: 0x7f, N: 7}}}
	for _, x := range trial.Consts() {
		if x.E.Op == 0x23 {
			continue
		}
		want := map[byte]byte{0x41: 0x7f, 0x42: 0x7e}[x.E.Op]
		for at := range typesOf {
			checkType(t, x.E, typesOf[at], want, 0)
			checkValue(t, x.E, valuesOf[at], api.Value{T: want, N: x.E.A}, 0)
		}
	}
}

func TestTypeOfGet(t *testing.T) {
	list := []api.GlobalType{{T: 0x7f}, {T: 0x7e}, {T: 0x7f, Mut: true}, {T: 0x7e, Mut: true}, {T: 0x7e}}
	checkType(t, consts.Global(0), list, 0x7f, 0)
	checkType(t, consts.Global(1), list, 0x7e, 0)
	checkType(t, consts.Global(2), list, 0, 24)
	checkType(t, consts.Global(3), list, 0, 24)
	checkType(t, consts.Global(4), list, 0x7e, 0)
	checkType(t, consts.Global(1), list[:1], 0, 24)
	for _, n := range []uint32{5, 6, 127, 128, 1 << 31, 1<<32 - 1} {
		checkType(t, consts.Global(n), list, 0, 24)
	}
	for _, n := range []uint32{0, 1, 1<<32 - 1} {
		checkType(t, consts.Global(n), nil, 0, 24)
		checkType(t, consts.Global(n), []api.GlobalType{}, 0, 24)
	}
	// A type that is none is handed on as it is.
	for b := range 256 {
		checkType(t, consts.Global(1), []api.GlobalType{{}, {T: byte(b)}}, byte(b), 0)
		checkType(t, consts.Global(1), []api.GlobalType{{}, {T: byte(b), Mut: true}}, 0, 24)
	}
}

func TestValueOfGet(t *testing.T) {
	list := []api.Value{{T: 0x7f, N: 5}, {T: 0x7e, N: 1 << 63}, {T: 0x7f, N: 1<<32 - 1}, {T: 0x7e}, {T: 0x7e, N: math.MaxUint64}}
	for n, v := range list {
		checkValue(t, consts.Global(uint32(n)), list, v, 0)
		checkValue(t, consts.Global(uint32(n)), list[:n+1], v, 0)
		checkValue(t, consts.Global(uint32(n)), list[:n], api.Value{}, 24)
	}
	for _, n := range []uint32{5, 6, 127, 128, 1 << 31, 1<<32 - 1} {
		checkValue(t, consts.Global(n), list, api.Value{}, 24)
	}
	for _, n := range []uint32{0, 1, 1<<32 - 1} {
		checkValue(t, consts.Global(n), nil, api.Value{}, 24)
		checkValue(t, consts.Global(n), []api.Value{}, api.Value{}, 24)
	}
	// A value that isn't right is handed on as it is.
	for b := range 256 {
		for _, n := range numbers {
			v := api.Value{T: byte(b), N: n}
			checkValue(t, consts.Global(1), []api.Value{{}, v}, v, 0)
		}
	}
}

// TestGetInLongLists takes every one of as many globals as there may be, and one more.
func TestGetInLongLists(t *testing.T) {
	list := make([]api.Value, 10000)
	kinds := make([]api.GlobalType, 10000)
	for n := range list {
		list[n] = api.Value{T: 0x7e, N: uint64(n)}
		kinds[n] = api.GlobalType{T: byte(n), Mut: n%3 == 0}
	}
	for n := range list {
		checkValue(t, consts.Global(uint32(n)), list, list[n], 0)
		if n%3 == 0 {
			checkType(t, consts.Global(uint32(n)), kinds, 0, 24)
		} else {
			checkType(t, consts.Global(uint32(n)), kinds, byte(n), 0)
		}
	}
	checkValue(t, consts.Global(10000), list, api.Value{}, 24)
	checkType(t, consts.Global(10000), kinds, 0, 24)
}

func TestOf(t *testing.T) {
	for _, x := range []struct {
		v api.Value
		i api.Instr
	}{
		{api.Value{T: 0x7f, N: 0}, api.Instr{Op: 0x41, A: 0}},
		{api.Value{T: 0x7f, N: 5}, api.Instr{Op: 0x41, A: 5}},
		{api.Value{T: 0x7f, N: 1<<31 - 1}, api.Instr{Op: 0x41, A: 1<<31 - 1}},
		{api.Value{T: 0x7f, N: 1 << 31}, api.Instr{Op: 0x41, A: 1 << 31}},
		{api.Value{T: 0x7f, N: 1<<32 - 1}, api.Instr{Op: 0x41, A: 1<<32 - 1}},
		{api.Value{T: 0x7f, N: 1 << 32}, api.Instr{Op: 0x41, A: 0}},
		{api.Value{T: 0x7f, N: 1<<32 + 5}, api.Instr{Op: 0x41, A: 5}},
		{api.Value{T: 0x7f, N: 1<<63 + 1<<31}, api.Instr{Op: 0x41, A: 1 << 31}},
		{api.Value{T: 0x7f, N: math.MaxUint64}, api.Instr{Op: 0x41, A: 1<<32 - 1}},
		{api.Value{T: 0x7e, N: 0}, api.Instr{Op: 0x42, A: 0}},
		{api.Value{T: 0x7e, N: 5}, api.Instr{Op: 0x42, A: 5}},
		{api.Value{T: 0x7e, N: 1 << 31}, api.Instr{Op: 0x42, A: 1 << 31}},
		{api.Value{T: 0x7e, N: 1<<32 - 1}, api.Instr{Op: 0x42, A: 1<<32 - 1}},
		{api.Value{T: 0x7e, N: 1 << 32}, api.Instr{Op: 0x42, A: 1 << 32}},
		{api.Value{T: 0x7e, N: 1<<63 - 1}, api.Instr{Op: 0x42, A: 1<<63 - 1}},
		{api.Value{T: 0x7e, N: 1 << 63}, api.Instr{Op: 0x42, A: 1 << 63}},
		{api.Value{T: 0x7e, N: math.MaxUint64}, api.Instr{Op: 0x42, A: math.MaxUint64}},
	} {
		checkOf(t, x.v, x.i, 0)
	}
}

// TestOfOtherTypes has all bytes but two, those of floats, of functions and of nothing among them: all of them are the same error.
func TestOfOtherTypes(t *testing.T) {
	for b := range 256 {
		if b == 0x7f || b == 0x7e {
			continue
		}
		for _, n := range numbers {
			checkOf(t, api.Value{T: byte(b), N: n}, api.Instr{}, 7)
		}
	}
}

func TestGlobal(t *testing.T) {
	for _, n := range []uint32{0, 1, 127, 128, 1<<31 - 1, 1 << 31, 1<<32 - 1} {
		got := consts.Global(n)
		if !trial.SameInstr(got, api.Instr{Op: 0x23, A: uint64(n)}) {
			t.Errorf("Global(%d): %x", n, got)
		}
		checkRight(t, got, 0)
	}
}

// P8.3

// TestValuesComeBack also has values that aren't right: they come back reduced to their type.
func TestValuesComeBack(t *testing.T) {
	right := 0
	for b := range 256 {
		for _, n := range append([]uint64{3, 77, 0x12345678, 0x123456789abcdef0}, numbers...) {
			v := api.Value{T: byte(b), N: n}
			i, e := consts.Of(v)
			if e != 0 {
				continue
			}
			if types.Right(v) {
				right++
				checkValue(t, i, nil, v, 0)
			}
			checkValue(t, i, nil, types.Cut(v), 0)
			checkType(t, i, nil, v.T, 0)
			checkRight(t, i, 0)
		}
	}
	if right < 50 {
		t.Errorf("only %d values were right", right)
	}
}

// TestExpressionsAreReadBack, with other bytes behind them.
func TestExpressionsAreReadBack(t *testing.T) {
	for _, op := range constants() {
		for _, a := range numbers {
			i := api.Instr{Op: op, A: a}
			b, e := consts.Put(i)
			if e != consts.Right(i) {
				t.Errorf("Put(%x): %d", i, e)
			}
			if e != 0 {
				continue
			}
			for _, more := range []string{"", "\x00", "\x0b", "\x7f", "\x80", "\xff", "\x92", "\x0b\x0b", "\xff\xff\xff\xff\xff\xff", string(b)} {
				checkRead(t, append(slices.Clip(b), more...), i, len(b))
			}
		}
	}
}

// P1

// TestAnything reads and asks what comes by chance: the same numbers each time.
func TestAnything(t *testing.T) {
	next := trial.Chance(1)
	list := []api.Value{{T: 0x7f, N: 5}, {T: 0x7e, N: 1 << 40}}
	for range 20000 {
		b := make([]byte, next(12))
		for at := range b {
			b[at] = byte(next(256))
		}
		if len(b) > 0 && next(2) == 0 {
			b[0] = constants()[next(3)]
		}
		read.Agrees(t, string(b))
		i := api.Instr{Op: byte(next(256)), A: numbers[next(len(numbers))], L: make([]uint32, next(2))}
		if e := trial.ConstError(i); e != 0 {
			checkRight(t, i, e)
			checkValue(t, i, list, api.Value{}, e)
			checkType(t, i, []api.GlobalType{{T: 0x7f}}, 0, e)
		}
	}
}

func TestManyBytes(t *testing.T) {
	for _, x := range []byte{0x00, 0x0b, 0x23, 0x41, 0x42, 0x80, 0xff} {
		for _, lead := range []string{"", "\x23", "\x41", "\x42", "\x41\x05", "\x41\x05\x0b"} {
			b := append([]byte(lead), bytes.Repeat([]byte{x}, 1000)...)
			read.Agrees(t, string(b))
		}
	}
}

// P2

// TestArgumentsStay looks at bytes, labels and lists, and at what is behind them that there is room for.
func TestArgumentsStay(t *testing.T) {
	room := []byte{0x41, 0x85, 0x01, 0x0b, 0x42, 0x92, 0x0b}
	whole := slices.Clone(room)
	for n := range len(room) + 1 {
		try(scan.Over(room[:n]))
	}
	if !bytes.Equal(room, whole) {
		t.Errorf("the bytes were % x and are % x", whole, room)
	}
	labels := []uint32{1, 2, 3, 4}
	kinds := []api.GlobalType{{T: 0x7f}, {T: 0x7e, Mut: true}, {T: 0x7d}, {T: 1}}
	values := []api.Value{{T: 0x7f, N: 1 << 40}, {T: 0x7e, N: 6}, {T: 0x7d, N: 7}, {T: 1, N: 8}}
	for op := range 256 {
		for n := range 4 {
			i := api.Instr{Op: byte(op), A: uint64(n), L: labels[:n%3]}
			consts.Right(i)
			consts.Put(i)
			consts.Type(i, kinds[:n])
			consts.Value(i, values[:n])
			consts.Of(values[n])
		}
	}
	if !slices.Equal(labels, []uint32{1, 2, 3, 4}) {
		t.Errorf("the labels are %d", labels)
	}
	if !slices.Equal(kinds, []api.GlobalType{{T: 0x7f}, {T: 0x7e, Mut: true}, {T: 0x7d}, {T: 1}}) {
		t.Errorf("the globals are %v", kinds)
	}
	if !slices.Equal(values, []api.Value{{T: 0x7f, N: 1 << 40}, {T: 0x7e, N: 6}, {T: 0x7d, N: 7}, {T: 1, N: 8}}) {
		t.Errorf("the values are %v", values)
	}
}

// TestArgumentsAreNotKept changes the globals between two calls: each goes by what it is given.
func TestArgumentsAreNotKept(t *testing.T) {
	kinds := []api.GlobalType{{T: 0x7f}}
	values := []api.Value{{T: 0x7f, N: 5}}
	checkType(t, consts.Global(0), kinds, 0x7f, 0)
	checkValue(t, consts.Global(0), values, api.Value{T: 0x7f, N: 5}, 0)
	kinds[0] = api.GlobalType{T: 0x7e, Mut: true}
	values[0] = api.Value{T: 0x7e, N: 6}
	checkType(t, consts.Global(0), kinds, 0, 24)
	checkValue(t, consts.Global(0), values, api.Value{T: 0x7e, N: 6}, 0)
	b := []byte{0x41, 0x05, 0x0b}
	got, _ := try(scan.Over(b))
	clear(b)
	if !trial.SameInstr(got, api.Instr{Op: 0x41, A: 5}) {
		t.Errorf("Read: %x", got)
	}
}

// TestResultsAreNew spoils the bytes of Put, with all that they have room for, and asks again.
func TestResultsAreNew(t *testing.T) {
	for range 3 {
		for _, x := range trial.Consts() {
			b, _ := consts.Put(x.E)
			if string(b) != x.B {
				t.Errorf("Put(%x): % x", x.E, b)
			}
			trial.Spoil(b, 0xee)
		}
	}
}

// TestCallsDoNotMatter asks the same again after calls that fail.
func TestCallsDoNotMatter(t *testing.T) {
	for range 3 {
		checkRight(t, api.Instr{Op: 0x6a}, 12)
		checkNoRead(t, []byte{0x41, 0x05, 0x0c}, 12, 2)
		checkNoRead(t, []byte{0x41, 0x80}, 2, 1)
		checkType(t, consts.Global(1), []api.GlobalType{{T: 0x7f}}, 0, 24)
		checkValue(t, consts.Global(1), []api.Value{{T: 0x7f}}, api.Value{}, 24)
		checkOf(t, api.Value{T: 0x7d, N: 5}, api.Instr{}, 7)
		checkPut(t, api.Instr{Op: 0x42, A: 5}, []byte{0x42, 0x05, 0x0b})
		checkRead(t, []byte{0x23, 0x01, 0x0b}, api.Instr{Op: 0x23, A: 1}, 3)
		checkType(t, consts.Global(0), []api.GlobalType{{T: 0x7f}}, 0x7f, 0)
		checkValue(t, consts.Global(0), []api.Value{{T: 0x7f, N: 9}}, api.Value{T: 0x7f, N: 9}, 0)
		checkOf(t, api.Value{T: 0x7f, N: 5}, api.Instr{Op: 0x41, A: 5}, 0)
	}
}
