package instr_test

import (
	"bytes"
	"math"
	"slices"
	"testing"

	"creel/abort"
	"creel/api"
	"creel/instr"
	"creel/scan"
	"creel/trial"
)

// The models are those of package trial, which are written from the chapter with numbers of their own.

// readInstr and readBody are what the model reads at the beginning of bytes: nothing, if there is an error.
func readInstr(b []byte) (api.Instr, int, abort.Stop) {
	m := trial.NewModel(string(b))
	i := m.Instr()
	if m.Failed() {
		return api.Instr{}, 0, m.Stop
	}
	return i, m.At, abort.Stop{}
}

func readBody(b []byte) ([]api.Instr, int, abort.Stop) {
	m := trial.NewModel(string(b))
	list := m.Body()
	if m.Failed() {
		return nil, 0, m.Stop
	}
	return list, m.At, abort.Stop{}
}

func isZero(i api.Instr) bool { return i.Op == 0 && i.A == 0 && i.B == 0 && len(i.L) == 0 }

// many are so many labels.
func many(n int) []uint32 {
	list := make([]uint32, n)
	for at := range list {
		list[at] = uint32(at)
	}
	return list
}

// ops are instructions of these opcodes, whose blocks give nothing.
func ops(list string) []api.Instr { return trial.Plains(list) }

// encoded are the bytes of instructions, whether they are a body or not.
func encoded(list []api.Instr) []byte { return []byte(trial.BodyBytes(list)) }

// brief keeps messages about long things readable.
func brief[T any](list []T) []T { return list[:min(len(list), 12)] }

func briefInstr(i api.Instr) api.Instr { i.L = brief(i.L); return i }

// Checks.

func checkRight(t *testing.T, i api.Instr, want api.Errno) {
	t.Helper()
	if got := instr.Right(i); got != want {
		t.Errorf("Right(%x): %d, want %d", briefInstr(i), got, want)
	}
	b, e := instr.Put(i)
	if e != want {
		t.Errorf("Put(%x): %d, want %d", briefInstr(i), e, want)
	}
	if want != 0 && len(b) != 0 {
		t.Errorf("Put(%x): % x beside an error", briefInstr(i), brief(b))
	}
}

func checkPut(t *testing.T, i api.Instr, want []byte) {
	t.Helper()
	checkRight(t, i, 0)
	if b, _ := instr.Put(i); !bytes.Equal(b, want) {
		t.Errorf("Put(%x): % x, want % x", briefInstr(i), brief(b), brief(want))
	}
}

// checkParse checks that bytes begin with an instruction of so many bytes.
func checkParse(t *testing.T, b []byte, want api.Instr, n int) {
	t.Helper()
	got, length, stop := instr.Parse(b)
	if !trial.SameInstr(got, want) || length != n || stop != (abort.Stop{}) {
		t.Errorf("Parse(% x): %x, %d, %v, want %x, %d", brief(b), briefInstr(got), length, stop, briefInstr(want), n)
	}
	for _, p := range trial.Places(b) {
		got, stop := abort.Value(func() api.Instr { return instr.Get(p.S) })
		if !trial.SameInstr(got, want) || stop != (abort.Stop{}) || p.S.At() != p.At+n || p.S.Left() != len(b)-n {
			t.Errorf("Get of % x, %s: %x, %v, At %d, want %x", brief(b), p.What, briefInstr(got), stop, p.S.At(), briefInstr(want))
		}
	}
}

// checkNoParse checks that bytes begin with no instruction, and why, and where.
func checkNoParse(t *testing.T, b []byte, why api.Errno, at int) {
	t.Helper()
	got, length, stop := instr.Parse(b)
	if !isZero(got) || length != 0 || stop != (abort.Stop{Why: why, At: at}) {
		t.Errorf("Parse(% x): %x, %d, %v, want %d at %d", brief(b), briefInstr(got), length, stop, why, at)
	}
	for _, p := range trial.Places(b) {
		stop := abort.Out(func() { instr.Get(p.S) })
		if stop != (abort.Stop{Why: why, At: p.At + at}) {
			t.Errorf("Get of % x, %s: %v, want %d at %d", brief(b), p.What, stop, why, p.At+at)
		}
	}
}

// checkModel checks that bytes begin with an instruction, or not, as the model says.
func checkModel(t *testing.T, b []byte) {
	t.Helper()
	want, n, stop := readInstr(b)
	if stop.Why == 0 {
		checkParse(t, b, want, n)
	} else {
		checkNoParse(t, b, stop.Why, stop.At)
	}
}

// checkParseBody checks that bytes begin with a body of so many bytes.
func checkParseBody(t *testing.T, b []byte, want []api.Instr, n int) {
	t.Helper()
	got, length, stop := instr.ParseBody(b)
	if !trial.SameBody(got, want) || length != n || stop != (abort.Stop{}) {
		t.Errorf("ParseBody(% x): %d instructions, %d, %v, want %d and %d", brief(b), len(got), length, stop, len(want), n)
	}
	for _, p := range trial.Places(b) {
		got, stop := abort.Value(func() []api.Instr { return instr.GetBody(p.S) })
		if !trial.SameBody(got, want) || stop != (abort.Stop{}) || p.S.At() != p.At+n || p.S.Left() != len(b)-n {
			t.Errorf("GetBody of % x, %s: %d instructions, %v, At %d", brief(b), p.What, len(got), stop, p.S.At())
		}
	}
}

// checkNoBody checks that bytes begin with no body, and why, and where.
func checkNoBody(t *testing.T, b []byte, why api.Errno, at int) {
	t.Helper()
	got, length, stop := instr.ParseBody(b)
	if len(got) != 0 || length != 0 || stop != (abort.Stop{Why: why, At: at}) {
		t.Errorf("ParseBody(% x): %d instructions, %d, %v, want %d at %d", brief(b), len(got), length, stop, why, at)
	}
	for _, p := range trial.Places(b) {
		stop := abort.Out(func() { instr.GetBody(p.S) })
		if stop != (abort.Stop{Why: why, At: p.At + at}) {
			t.Errorf("GetBody of % x, %s: %v, want %d at %d", brief(b), p.What, stop, why, p.At+at)
		}
	}
}

func checkBodyModel(t *testing.T, b []byte) {
	t.Helper()
	want, n, stop := readBody(b)
	if stop.Why == 0 {
		checkParseBody(t, b, want, n)
	} else {
		checkNoBody(t, b, stop.Why, stop.At)
	}
}

// checkShape checks what Shape and PutBody say of instructions that are right one by one.
func checkShape(t *testing.T, list []api.Instr, want api.Errno) {
	t.Helper()
	if got := instr.Shape(list); got != want {
		t.Errorf("Shape(%x): %d, want %d", brief(list), got, want)
	}
	b, e := instr.PutBody(list)
	if e != want {
		t.Errorf("PutBody(%x): %d, want %d", brief(list), e, want)
	}
	switch {
	case want != 0 && len(b) != 0:
		t.Errorf("PutBody(%x): % x beside an error", brief(list), brief(b))
	case want == 0 && !bytes.Equal(b, encoded(list)):
		t.Errorf("PutBody(%x): % x, want % x", brief(list), brief(b), brief(encoded(list)))
	}
}

// checkPutBody checks the first error of instructions that have the shape of a body.
func checkPutBody(t *testing.T, list []api.Instr, want api.Errno) {
	t.Helper()
	if b, e := instr.PutBody(list); e != want || len(b) != 0 {
		t.Errorf("PutBody(%x): % x, %d, want %d", brief(list), brief(b), e, want)
	}
}

// P7.1

func TestEnd(t *testing.T) {
	if instr.End != 11 {
		t.Errorf("End: %d", instr.End)
	}
}

// numbers are those at the edges of each kind.
var numbers = []uint64{
	0, 1, 2, 5, 63, 64, 0x3f, 0x40, 0x41, 0x60, 0x70, 0x7b, 0x7c, 0x7d, 0x7e, 0x7f, 127, 128, 254, 255, 256,
	256 + 0x40, 256 + 0x7f, 1<<32 + 0x40, 1<<63 + 0x7e,
	16383, 16384, 1<<31 - 1, 1 << 31, 1<<32 - 2, 1<<32 - 1, 1 << 32, 1<<32 + 1,
	1<<63 - 1, 1 << 63, math.MaxUint64 - 1, math.MaxUint64,
}

// TestEveryOpcode tries all opcodes with the numbers of the edges for A and B and with lists of all lengths that matter, and reads back what may be.
func TestEveryOpcode(t *testing.T) {
	lists := [][]uint32{nil, {}, {0}, {1, 127, 128, 1<<32 - 1}}
	for op := range 256 {
		for _, a := range numbers {
			for _, b := range numbers {
				for _, l := range lists {
					i := api.Instr{Op: byte(op), A: a, B: b, L: l}
					e := trial.InstrError(i)
					checkRight(t, i, e)
					if e == 0 {
						want := []byte(trial.InstrBytes(i))
						checkPut(t, i, want)
						checkParse(t, append(slices.Clip(want), 0x80), i, len(want))
					}
				}
			}
		}
		if t.Failed() {
			t.Fatalf("opcode %x", op)
		}
	}
}

// TestManyLabels has lists at the limit, for all opcodes.
func TestManyLabels(t *testing.T) {
	for op := range 256 {
		for _, n := range []int{9999, 10000, 10001, 20000} {
			for _, a := range []uint64{0, 1 << 32} {
				for _, b := range []uint64{0, 1} {
					i := api.Instr{Op: byte(op), A: a, B: b, L: many(n)}
					checkRight(t, i, trial.InstrError(i))
				}
			}
		}
	}
	checkRight(t, api.Instr{Op: 0x0e, L: many(10000)}, 0)
	checkRight(t, api.Instr{Op: 0x0e, L: many(10001)}, 29)
	checkRight(t, api.Instr{Op: 0x0d, L: many(10001)}, 1)
	checkPut(t, api.Instr{Op: 0x0e, L: many(10000)}, []byte(trial.InstrBytes(api.Instr{Op: 0x0e, L: many(10000)})))
}

// TestFirstErrorOfRight has several errors in one instruction each.
func TestFirstErrorOfRight(t *testing.T) {
	checkRight(t, api.Instr{Op: 0x92, A: 1 << 32, B: 1, L: many(10001)}, 8)
	checkRight(t, api.Instr{Op: 0x06, A: 1 << 32, B: 1, L: many(10001)}, 9)
	checkRight(t, api.Instr{Op: 0x02, A: 256, L: many(10001)}, 1) // rather than too many labels, or the type
	checkRight(t, api.Instr{Op: 0x02, A: 0x7d, L: []uint32{0}}, 1)
	checkRight(t, api.Instr{Op: 0x02, A: 0x7d, B: 1}, 1) // rather than the type
	checkRight(t, api.Instr{Op: 0x02, A: 0x41, B: 1}, 1)
	checkRight(t, api.Instr{Op: 0x02, A: 0x7d}, 8)
	checkRight(t, api.Instr{Op: 0x02, A: 0x41}, 7)
	checkRight(t, api.Instr{Op: 0x02, A: 256 + 0x7d}, 7) // rather than that of floats
	checkRight(t, api.Instr{Op: 0x0e, B: 1, L: many(10001)}, 29)
	checkRight(t, api.Instr{Op: 0x0e, A: 1 << 32, L: many(10001)}, 29)
	checkRight(t, api.Instr{Op: 0x0e, A: 1 << 32, B: 1, L: many(10000)}, 1)
	checkRight(t, api.Instr{Op: 0x01, A: 1, B: 1, L: many(1)}, 1)
}

// TestPut names an instruction of each kind, and its bytes.
func TestPut(t *testing.T) {
	most := []byte{0xff, 0xff, 0xff, 0xff, 0x0f}
	list := []struct {
		i    api.Instr
		want []byte
	}{
		{api.Instr{Op: 0x00}, []byte{0x00}},
		{api.Instr{Op: 0x0b}, []byte{0x0b}},
		{api.Instr{Op: 0x6a}, []byte{0x6a}},
		{api.Instr{Op: 0xad, L: []uint32{}}, []byte{0xad}},
		{api.Instr{Op: 0x02, A: 0x40}, []byte{0x02, 0x40}},
		{api.Instr{Op: 0x03, A: 0x7f}, []byte{0x03, 0x7f}},
		{api.Instr{Op: 0x04, A: 0x7e}, []byte{0x04, 0x7e}},
		{api.Instr{Op: 0x0c, A: 3}, []byte{0x0c, 3}},
		{api.Instr{Op: 0x0d, A: 127}, []byte{0x0d, 0x7f}},
		{api.Instr{Op: 0x10, A: 128}, []byte{0x10, 0x80, 1}},
		{api.Instr{Op: 0x20, A: 624485}, []byte{0x20, 0xe5, 0x8e, 0x26}},
		{api.Instr{Op: 0x24, A: 1<<32 - 1}, append([]byte{0x24}, most...)},
		{api.Instr{Op: 0x0e, A: 7}, []byte{0x0e, 0, 7}},
		{api.Instr{Op: 0x0e, A: 7, L: []uint32{}}, []byte{0x0e, 0, 7}},
		{api.Instr{Op: 0x0e, A: 7, L: []uint32{128}}, []byte{0x0e, 1, 0x80, 1, 7}},
		{api.Instr{Op: 0x0e, A: 1<<32 - 1, L: []uint32{5, 1<<32 - 1}}, slices.Concat([]byte{0x0e, 2, 5}, most, most)},
		{api.Instr{Op: 0x11, A: 300}, []byte{0x11, 0xac, 2, 0}},
		{api.Instr{Op: 0x28, A: 2, B: 130}, []byte{0x28, 2, 0x82, 1}},
		{api.Instr{Op: 0x3e, A: 1<<32 - 1, B: 1<<32 - 1}, slices.Concat([]byte{0x3e}, most, most)},
		{api.Instr{Op: 0x3f}, []byte{0x3f, 0}},
		{api.Instr{Op: 0x40}, []byte{0x40, 0}},
		{api.Instr{Op: 0x41, A: 0}, []byte{0x41, 0}},
		{api.Instr{Op: 0x41, A: 63}, []byte{0x41, 0x3f}},
		{api.Instr{Op: 0x41, A: 64}, []byte{0x41, 0xc0, 0}},
		{api.Instr{Op: 0x41, A: 1<<31 - 1}, []byte{0x41, 0xff, 0xff, 0xff, 0xff, 7}},
		{api.Instr{Op: 0x41, A: 1 << 31}, []byte{0x41, 0x80, 0x80, 0x80, 0x80, 0x78}},
		{api.Instr{Op: 0x41, A: 1<<32 - 1}, []byte{0x41, 0x7f}}, // the chapter's example
		{api.Instr{Op: 0x41, A: 1<<32 - 64}, []byte{0x41, 0x40}},
		{api.Instr{Op: 0x41, A: 1<<32 - 65}, []byte{0x41, 0xbf, 0x7f}},
		{api.Instr{Op: 0x42, A: 1<<32 - 1}, []byte{0x42, 0xff, 0xff, 0xff, 0xff, 0x0f}},
		{api.Instr{Op: 0x42, A: math.MaxUint64}, []byte{0x42, 0x7f}},
		{api.Instr{Op: 0x42, A: 1<<63 - 1}, append([]byte{0x42}, 0xff, 0xff, 0xff, 0xff, 0xff, 0xff, 0xff, 0xff, 0xff, 0)},
		{api.Instr{Op: 0x42, A: 1 << 63}, append([]byte{0x42}, 0x80, 0x80, 0x80, 0x80, 0x80, 0x80, 0x80, 0x80, 0x80, 0x7f)},
	}
	for _, c := range list {
		checkPut(t, c.i, c.want)
		checkParse(t, c.want, c.i, len(c.want))
		checkParse(t, append(slices.Clip(c.want), 0), c.i, len(c.want))
	}
}

func TestExample(t *testing.T) {
	minus := int32(-1)
	b, e := instr.Put(api.Instr{Op: 0x41, A: uint64(uint32(minus))})
	if !bytes.Equal(b, []byte{0x41, 0x7f}) || e != api.OK {
		t.Errorf("Put: % x, %d", b, e)
	}
}

// TestSame has instructions that differ in one field at a time, and some that do not.
func TestSame(t *testing.T) {
	list := []api.Instr{
		{},
		{Op: 1}, {Op: 0xff},
		{A: 1}, {A: 1 << 32}, {A: math.MaxUint64},
		{B: 1}, {B: 1 << 32}, {B: math.MaxUint64},
		{L: []uint32{0}}, {L: []uint32{1}}, {L: []uint32{0, 0}}, {L: []uint32{0, 1}}, {L: []uint32{1, 0}}, {L: []uint32{1<<32 - 1}},
		{Op: 1, A: 1}, {Op: 1, B: 1}, {A: 1, B: 1}, {Op: 1, L: []uint32{1}},
		{Op: 0x0e, A: 3, B: 4, L: []uint32{1, 2, 3}},
		{Op: 0x0d, A: 3, B: 4, L: []uint32{1, 2, 3}},
		{Op: 0x0e, A: 2, B: 4, L: []uint32{1, 2, 3}},
		{Op: 0x0e, A: 3, B: 3, L: []uint32{1, 2, 3}},
		{Op: 0x0e, A: 3, B: 4, L: []uint32{1, 2, 4}},
		{Op: 0x0e, A: 3, B: 4, L: []uint32{0, 2, 3}},
		{Op: 0x0e, A: 3, B: 4, L: []uint32{1, 2}},
		{Op: 0x0e, A: 3, B: 4, L: []uint32{1, 2, 3, 0}},
		{Op: 0x0e, A: 4, B: 3, L: []uint32{1, 2, 3}},
		{Op: 0x0e, A: 3, B: 4, L: []uint32{3, 2, 1}},
		{Op: 0x0e, A: 3, B: 4},
		{L: many(10000)}, {L: many(9999)}, {L: many(10001)},
	}
	for x, a := range list {
		for y, b := range list {
			b.L = slices.Clone(b.L)
			if got := instr.Same(a, b); got != (x == y) {
				t.Errorf("Same(%x, %x): %t", briefInstr(a), briefInstr(b), got)
			}
		}
	}
	none, empty := api.Instr{Op: 0x0e, A: 3}, api.Instr{Op: 0x0e, A: 3, L: []uint32{}}
	if !instr.Same(none, empty) || !instr.Same(empty, none) || !instr.Same(none, none) || !instr.Same(empty, empty) {
		t.Errorf("Same of a nil list and of an empty one")
	}
	// What is behind the length of a list does not count.
	if !instr.Same(api.Instr{L: []uint32{1, 2, 3}[:2]}, api.Instr{L: []uint32{1, 2, 4}[:2]}) {
		t.Errorf("Same of lists with room")
	}
}

// P7.2

func TestNoBytes(t *testing.T) {
	for _, b := range [][]byte{nil, {}} {
		checkNoParse(t, b, 2, 0)
		checkNoBody(t, b, 2, 0)
	}
}

// TestEveryFirstByte reads all opcodes, with bytes behind them that do for all kinds, and without.
func TestEveryFirstByte(t *testing.T) {
	for op := range 256 {
		for _, more := range [][]byte{nil, {0}, {0x40}, {0x7f}, {0x80}, {0xff}, {0, 0}, {0, 0, 0}, {1, 1, 1}, {0x7f, 0x7f, 0x7f}, {0x80, 0, 0, 0}, {0x92, 0x92}, {0x0b}} {
			checkModel(t, append([]byte{byte(op)}, more...))
		}
		b := byte(op)
		switch trial.Immediates[op] {
		case 'F':
			checkNoParse(t, []byte{b}, 8, 0)
			checkNoParse(t, []byte{b, 0, 0, 0}, 8, 0)
		case ' ':
			checkNoParse(t, []byte{b}, 9, 0)
			checkNoParse(t, []byte{b, 0, 0, 0}, 9, 0)
		case '.':
			checkParse(t, []byte{b}, api.Instr{Op: b}, 1)
			checkParse(t, []byte{b, 0x92}, api.Instr{Op: b}, 1)
		default:
			checkNoParse(t, []byte{b}, 2, 1)
		}
	}
}

// samples are instructions of every kind, with numbers of several bytes.
var samples = []api.Instr{
	{Op: 0x01},
	{Op: 0x02, A: 0x7e},
	{Op: 0x0c, A: 624485},
	{Op: 0x0e, A: 300, L: []uint32{5, 128, 1<<32 - 1}},
	{Op: 0x0e, A: 1<<32 - 1},
	{Op: 0x10, A: 1<<32 - 1},
	{Op: 0x11, A: 300},
	{Op: 0x21, A: 128},
	{Op: 0x23, A: 16384},
	{Op: 0x29, A: 1<<32 - 1, B: 1<<32 - 1},
	{Op: 0x3a, A: 128, B: 300},
	{Op: 0x3f},
	{Op: 0x41, A: 1 << 31},
	{Op: 0x42, A: 1 << 63},
	{Op: 0xac},
}

// TestCutOff cuts instructions off at every place: the error is at the part that is not whole.
func TestCutOff(t *testing.T) {
	list := slices.Clone(samples)
	for op := range 256 {
		for _, a := range []uint64{0, 0x40, 1<<32 - 1} {
			for _, b := range []uint64{0, 1<<32 - 1} {
				if i := (api.Instr{Op: byte(op), A: a, B: b}); trial.InstrError(i) == 0 {
					list = append(list, i)
				}
			}
		}
	}
	for _, i := range list {
		b, e := instr.Put(i)
		if e != api.OK {
			t.Fatalf("Put(%x): %d", i, e)
		}
		for n := range b {
			_, _, stop := readInstr(b[:n])
			if stop.Why != 2 {
				t.Fatalf("the model reads % x", b[:n])
			}
			checkNoParse(t, b[:n], 2, stop.At)
		}
		checkParse(t, b, i, len(b))
	}
	for _, c := range []struct {
		b  []byte
		at []int // of the error, by how many bytes there are
	}{
		{[]byte{0x01}, []int{0}},
		{[]byte{0x02, 0x40}, []int{0, 1}},
		{[]byte{0x0c, 0xe5, 0x8e, 0x26}, []int{0, 1, 1, 1}},
		{[]byte{0x0e, 0x82, 0, 5, 0x80, 1, 0x87, 0}, []int{0, 1, 1, 3, 4, 4, 6, 6}},
		{[]byte{0x11, 0xac, 2, 0}, []int{0, 1, 1, 3}},
		{[]byte{0x29, 0x83, 0, 0x85, 0}, []int{0, 1, 1, 3, 3}},
		{[]byte{0x40, 0}, []int{0, 1}},
		{[]byte{0x41, 0xc0, 0xbb, 0x78}, []int{0, 1, 1, 1}},
		{[]byte{0x42, 0xc0, 0xbb, 0x78}, []int{0, 1, 1, 1}},
	} {
		for n, at := range c.at {
			checkNoParse(t, c.b[:n], 2, at)
		}
		checkModel(t, c.b)
	}
}

// TestVarints has numbers of too many bytes or bits, and longer ones than need be, in every place where one stands.
func TestVarints(t *testing.T) {
	leads := [][]byte{{0x0c}, {0x0d}, {0x0e}, {0x0e, 0}, {0x0e, 2}, {0x0e, 2, 5}, {0x0e, 2, 5, 6}, {0x10}, {0x11}, {0x20}, {0x24}, {0x28}, {0x28, 2}, {0x3e}, {0x3e, 0x80, 1}}
	tooLong := []byte{0x80, 0x80, 0x80, 0x80, 0x80, 0}
	tooLarge := []byte{0x80, 0x80, 0x80, 0x80, 0x10} // 2^32
	rest := make([]byte, 8)
	for _, lead := range leads {
		checkNoParse(t, slices.Concat(lead, tooLong, rest), 3, len(lead))
		checkNoParse(t, slices.Concat(lead, tooLarge, rest), 3, len(lead))
		checkNoParse(t, slices.Concat(lead, []byte{0xff, 0xff, 0xff, 0xff, 0x7f}, rest), 3, len(lead))
		checkNoParse(t, slices.Concat(lead, tooLong[:4]), 2, len(lead))
		checkNoParse(t, slices.Concat(lead, tooLong[:5]), 3, len(lead))
		checkModel(t, slices.Concat(lead, []byte{0x81, 0x80, 0x80, 0x80, 0}, rest))
		checkModel(t, slices.Concat(lead, []byte{0xff, 0xff, 0xff, 0xff, 0x0f}, rest))
	}
	checkParse(t, []byte{0x0c, 0x81, 0x80, 0x80, 0x80, 0, 9}, api.Instr{Op: 0x0c, A: 1}, 6)
	checkParse(t, []byte{0x0e, 0x81, 0, 0x82, 0, 0x83, 0, 9}, api.Instr{Op: 0x0e, A: 3, L: []uint32{2}}, 7)
}

func TestConstants(t *testing.T) {
	ff := func(n int) []byte { return bytes.Repeat([]byte{0xff}, n) }
	eighty := func(n int) []byte { return bytes.Repeat([]byte{0x80}, n) }
	put := func(op byte, list []byte, last ...byte) []byte { return slices.Concat([]byte{op}, list, last) }
	// The least and the greatest of 32 bits, and what is beyond them.
	checkParse(t, put(0x41, ff(4), 0x07), api.Instr{Op: 0x41, A: 1<<31 - 1}, 6)
	checkParse(t, put(0x41, eighty(4), 0x78), api.Instr{Op: 0x41, A: 1 << 31}, 6)
	checkParse(t, put(0x41, ff(4), 0x7f), api.Instr{Op: 0x41, A: 1<<32 - 1}, 6)
	checkParse(t, put(0x41, nil, 0x7f), api.Instr{Op: 0x41, A: 1<<32 - 1}, 2)
	checkParse(t, put(0x41, nil, 0x40), api.Instr{Op: 0x41, A: 1<<32 - 64}, 2)
	checkParse(t, put(0x41, eighty(4), 0x00), api.Instr{Op: 0x41}, 6)
	checkNoParse(t, put(0x41, eighty(4), 0x08), 3, 1) // 2^31
	checkNoParse(t, put(0x41, ff(4), 0x77), 3, 1)     // -2^31 - 1
	checkNoParse(t, put(0x41, ff(4), 0x0f), 3, 1)     // 2^32 - 1
	checkNoParse(t, put(0x41, eighty(5), 0x00), 3, 1)
	checkNoParse(t, put(0x41, ff(5), 0x7f), 3, 1)
	checkNoParse(t, put(0x41, ff(4)), 2, 1)
	// And of 64.
	checkParse(t, put(0x42, ff(9), 0x00), api.Instr{Op: 0x42, A: 1<<63 - 1}, 11)
	checkParse(t, put(0x42, eighty(9), 0x7f), api.Instr{Op: 0x42, A: 1 << 63}, 11)
	checkParse(t, put(0x42, nil, 0x7f), api.Instr{Op: 0x42, A: math.MaxUint64}, 2)
	checkParse(t, put(0x42, eighty(4), 0x08), api.Instr{Op: 0x42, A: 1 << 31}, 6)
	checkParse(t, put(0x42, eighty(4), 0x78), api.Instr{Op: 0x42, A: math.MaxUint64 - 1<<31 + 1}, 6)
	checkParse(t, put(0x42, eighty(9), 0x00), api.Instr{Op: 0x42}, 11)
	checkNoParse(t, put(0x42, eighty(9), 0x01), 3, 1) // 2^63
	checkNoParse(t, put(0x42, ff(9), 0x7e), 3, 1)     // -2^63 - 1
	checkNoParse(t, put(0x42, eighty(10), 0x00), 3, 1)
	checkNoParse(t, put(0x42, ff(9)), 2, 1)
}

// TestBytesOfImmediates tries all bytes as a block's type, and where there has to be a 0.
func TestBytesOfImmediates(t *testing.T) {
	for x := range 256 {
		b := byte(x)
		for _, op := range []byte{0x02, 0x03, 0x04} {
			for _, more := range [][]byte{nil, {0}, {0x92}} {
				input := slices.Concat([]byte{op, b}, more)
				if e := trial.BlockError(uint64(x)); e == 0 {
					checkParse(t, input, api.Instr{Op: op, A: uint64(x)}, 2)
				} else {
					checkNoParse(t, input, e, 1)
				}
			}
		}
		if x != 0 {
			checkNoParse(t, []byte{0x3f, b}, 10, 1)
			checkNoParse(t, []byte{0x40, b, 0}, 10, 1)
			checkNoParse(t, []byte{0x11, 5, b}, 10, 2)
			checkNoParse(t, []byte{0x11, 0x80, 1, b, 0}, 10, 3)
		}
	}
	checkParse(t, []byte{0x3f, 0, 1}, api.Instr{Op: 0x3f}, 2)
	checkParse(t, []byte{0x40, 0, 1}, api.Instr{Op: 0x40}, 2)
	checkParse(t, []byte{0x11, 5, 0, 1}, api.Instr{Op: 0x11, A: 5}, 3)
	// A 0 of two bytes is no byte 0.
	checkNoParse(t, []byte{0x3f, 0x80, 0}, 10, 1)
	checkNoParse(t, []byte{0x11, 0, 0x80, 0}, 10, 2)
	// The number comes ahead of the byte behind it.
	checkNoParse(t, []byte{0x11, 0x80, 0x80, 0x80, 0x80, 0x10, 1}, 3, 1)
}

func TestCountsOfLabels(t *testing.T) {
	full := append([]byte{0x0e, 0x90, 0x4e}, bytes.Repeat([]byte{7}, 10000)...)
	checkParse(t, append(slices.Clip(full), 9, 0x92), api.Instr{Op: 0x0e, A: 9, L: slices.Repeat([]uint32{7}, 10000)}, 10004)
	checkNoParse(t, full, 2, 10003)
	checkNoParse(t, full[:10002], 2, 10002)
	checkNoParse(t, full[:3], 2, 3)
	rest := make([]byte, 20000)
	checkNoParse(t, append([]byte{0x0e, 0x91, 0x4e}, rest...), 29, 1)
	checkNoParse(t, []byte{0x0e, 0x91, 0x4e}, 29, 1)
	checkNoParse(t, append([]byte{0x0e, 0xff, 0xff, 0xff, 0xff, 0x0f}, rest...), 29, 1)
	checkNoParse(t, append([]byte{0x0e, 0x91, 0xce, 0x00}, rest...), 29, 1)
	checkNoParse(t, append([]byte{0x0e, 0x80, 0x80, 0x80, 0x80, 0x10}, rest...), 3, 1)
	// The labels are read in their order: the first one that is wrong counts, and the last number comes behind them.
	checkNoParse(t, []byte{0x0e, 2, 1, 0x80, 0x80, 0x80, 0x80, 0x10, 0x80, 0x80, 0x80, 0x80, 0x10}, 3, 3)
	checkNoParse(t, []byte{0x0e, 1, 1, 0x80, 0x80, 0x80, 0x80, 0x10}, 3, 3)
}

// TestAsTheModel reads all short inputs of bytes that mean something.
func TestAsTheModel(t *testing.T) {
	alphabet := []byte{0x00, 0x01, 0x02, 0x05, 0x06, 0x0b, 0x0c, 0x0e, 0x10, 0x11, 0x28, 0x3f, 0x40, 0x41, 0x42, 0x43, 0x7d, 0x7f, 0x80, 0x92, 0xff}
	for n := range 4 {
		trial.Words(alphabet, n, func(b []byte) { checkModel(t, b) })
	}
	for _, lead := range [][]byte{{0x0e}, {0x28}, {0x11}, {0x41}, {0x42}} {
		trial.Words([]byte{0, 1, 2, 0x7f, 0x80, 0xff}, 5, func(b []byte) { checkModel(t, append(slices.Clip(lead), b...)) })
	}
	for _, x := range []byte{0x00, 0x08, 0x0f, 0x10, 0x70, 0x77, 0x78, 0x7f} {
		for _, op := range []byte{0x0c, 0x41, 0x42} {
			for n := 3; n < 11; n++ {
				for _, y := range []byte{0x80, 0xff} {
					checkModel(t, slices.Concat([]byte{op}, bytes.Repeat([]byte{y}, n), []byte{x, 0}))
				}
			}
		}
	}
}

// P7.3

// Opcodes of which bodies are made.
const (
	nop   = trial.Nop
	block = trial.Block
	loop  = trial.Loop
	cond  = trial.If
	other = trial.Else
	end   = trial.End
)

func TestShape(t *testing.T) {
	for _, good := range []string{
		end,
		nop + end,
		nop + nop + end,
		block + end + end,
		loop + end + end,
		cond + end + end,
		cond + other + end + end,
		cond + nop + other + nop + end + nop + end,
		block + loop + cond + end + end + end + end,
		cond + cond + other + end + other + cond + other + end + end + end,
		cond + block + end + other + loop + end + end + end,
		block + end + block + end + loop + end + end,
		block + cond + other + end + end + end,
		cond + other + block + end + cond + other + end + end + end,
		"\x00" + "\x0f" + "\x1a" + "\x6a" + end,
	} {
		list := ops(good)
		checkShape(t, list, 0)
		b := encoded(list)
		for _, more := range []string{"", "\x0b", "\x05", "\x92", "\x80", "\x01\x0b"} {
			checkParseBody(t, append(slices.Clip(b), more...), list, len(b))
		}
		for n := range b {
			checkNoBody(t, b[:n], 2, n)
		}
		for _, op := range []string{end, nop, block, other, block + end, other + end} {
			checkShape(t, ops(good+op), 30)
		}
	}
	for _, bad := range []string{
		"",
		nop, nop + nop, block, loop, cond, other,
		end + end, end + nop, end + other, end + block, end + nop + end, end + block + end,
		block + end, loop + end, cond + end, block + block + end + end, cond + other + end,
		block + end + end + end, cond + other + end + end + end,
		other + end, nop + other + end, other + other + end, other + end + end,
		block + other + end + end, loop + other + end + end,
		cond + other + other + end + end,
		cond + other + nop + other + end + end,
		cond + block + other + end + end + end,
		cond + loop + other + end + other + end + end,
		cond + cond + other + end + other + other + end + end,
		block + cond + end + other + end + end,
		cond + end + other + end,
		cond + other + end + other + end,
		end + cond + other + end + end,
	} {
		checkShape(t, ops(bad), 30)
	}
	checkShape(t, nil, 30)
	checkShape(t, []api.Instr{}, 30)
}

// TestMisplacedElse tells where it is.
func TestMisplacedElse(t *testing.T) {
	checkNoBody(t, []byte{0x05}, 30, 0)
	checkNoBody(t, []byte{0x05, 0x0b}, 30, 0)
	checkNoBody(t, []byte{0x01, 0x41, 0x80, 0x01, 0x05, 0x0b}, 30, 4)
	checkNoBody(t, []byte{0x02, 0x40, 0x05, 0x0b, 0x0b}, 30, 2)
	checkNoBody(t, []byte{0x03, 0x40, 0x05, 0x0b, 0x0b}, 30, 2)
	checkNoBody(t, []byte{0x04, 0x40, 0x05, 0x05, 0x0b, 0x0b}, 30, 3)
	checkNoBody(t, []byte{0x04, 0x40, 0x05, 0x01, 0x05, 0x0b, 0x0b}, 30, 4)
	checkNoBody(t, []byte{0x04, 0x40, 0x0b, 0x05, 0x0b}, 30, 3)
	checkNoBody(t, []byte{0x04, 0x40, 0x02, 0x40, 0x05, 0x0b, 0x0b, 0x0b}, 30, 4)
	checkNoBody(t, []byte{0x04, 0x40, 0x05, 0x02, 0x40, 0x05, 0x0b, 0x0b, 0x0b}, 30, 5)
	checkNoBody(t, []byte{0x04, 0x40, 0x04, 0x40, 0x05, 0x0b, 0x05, 0x05}, 30, 7)
	// What is behind it is not read.
	checkNoBody(t, []byte{0x02, 0x40, 0x05, 0x92}, 30, 2)
	checkNoBody(t, []byte{0x02, 0x40, 0x92, 0x05}, 8, 2)
	// Behind the final end there is nothing that could be wrong.
	checkParseBody(t, []byte{0x0b, 0x05}, ops(end), 1)
}

// TestEndsMissing has an end too few and one too many.
func TestEndsMissing(t *testing.T) {
	checkNoBody(t, []byte{0x01}, 2, 1)
	checkNoBody(t, []byte{0x02, 0x40, 0x0b}, 2, 3)
	checkNoBody(t, []byte{0x02, 0x40, 0x0b, 0x01}, 2, 4)
	checkNoBody(t, []byte{0x04, 0x40, 0x05, 0x0b}, 2, 4)
	checkParseBody(t, []byte{0x0b, 0x0b}, ops(end), 1)
	checkParseBody(t, []byte{0x02, 0x40, 0x0b, 0x0b, 0x0b}, ops(block+end+end), 4)
}

// TestErrorsOfGet has each of them in a body, behind other instructions.
func TestErrorsOfGet(t *testing.T) {
	lead := []byte{0x02, 0x7f, 0x41, 0x80, 0x01}
	for _, c := range []struct {
		b   []byte
		why api.Errno
		at  int
	}{
		{nil, 2, 0},
		{[]byte{0x06}, 9, 0},
		{[]byte{0x2a}, 8, 0},
		{[]byte{0x04, 0x7d}, 8, 1},
		{[]byte{0x04, 0x41}, 7, 1},
		{[]byte{0x0c, 0x80}, 2, 1},
		{[]byte{0x0c, 0xff, 0xff, 0xff, 0xff, 0x1f}, 3, 1},
		{[]byte{0x0e, 0x91, 0x4e}, 29, 1},
		{[]byte{0x0e, 0x02, 0x00}, 2, 3},
		{[]byte{0x11, 0x05, 0x01}, 10, 2},
		{[]byte{0x3f, 0x01}, 10, 1},
		{[]byte{0x41, 0xff, 0xff, 0xff, 0xff, 0x0f}, 3, 1},
	} {
		checkNoBody(t, c.b, c.why, c.at)
		checkNoBody(t, slices.Concat(lead, c.b), c.why, len(lead)+c.at)
		if c.why != 2 {
			checkNoBody(t, slices.Concat(lead, c.b, []byte{0x05, 0x92, 0x0b, 0x0b}), c.why, len(lead)+c.at)
		}
	}
}

// TestAllShapes tries all short lists of what makes the shape of a body.
func TestAllShapes(t *testing.T) {
	alphabet := ops(nop + block + loop + cond + other + end)
	for n := range 7 {
		trial.Words(alphabet, n, func(list []api.Instr) {
			checkShape(t, list, trial.ShapeError(list))
			checkBodyModel(t, encoded(list))
		})
	}
	trial.Words(ops(block+cond+other+end), 8, func(list []api.Instr) {
		checkShape(t, list, trial.ShapeError(list))
		checkBodyModel(t, encoded(list))
	})
}

// TestShapeAndGetBody: a list is a body just if GetBody reads all of its bytes.
func TestShapeAndGetBody(t *testing.T) {
	for n := range 7 {
		trial.Words(ops(nop+loop+cond+other+end), n, func(list []api.Instr) {
			b := encoded(list)
			_, length, stop := instr.ParseBody(b)
			if is := stop.Why == 0 && length == len(b); is != (instr.Shape(list) == 0) {
				t.Errorf("Shape(%x): %d, ParseBody: %d, %v", list, instr.Shape(list), length, stop)
			}
		})
	}
}

// TestLongBodies has those of exactly the limit, and of one instruction more.
func TestLongBodies(t *testing.T) {
	plain := func(n int) []api.Instr { return append(slices.Repeat(ops(nop), n-1), ops(end)...) }
	deep := func(n int) []api.Instr { // blocks in each other, and ends
		return slices.Concat(slices.Repeat(ops(block), n/2), slices.Repeat(ops(nop), (n-1)%2), slices.Repeat(ops(end), n/2), ops(end))[:n]
	}
	wide := func(n int) []api.Instr { // ifs behind each other
		return append(slices.Repeat(ops(cond+other+end), n/3+1)[:n-1], ops(end)...)
	}
	for _, n := range []int{19999, 20000} {
		checkShape(t, plain(n), 0)
		checkParseBody(t, append(encoded(plain(n)), 0x01), plain(n), n)
	}
	for _, n := range []int{20001, 20002, 40000} {
		checkShape(t, plain(n), 29)
		checkNoBody(t, encoded(plain(n)), 29, 20000)
	}
	exact := slices.Concat(slices.Repeat(ops(block), 9999), ops(nop), slices.Repeat(ops(end), 10000))
	checkShape(t, exact, 0)
	checkParseBody(t, append(encoded(exact), 0x05), exact, 9999*2+1+10000)
	more := slices.Insert(slices.Clone(exact), 9999, ops(nop)...)
	checkShape(t, more, 29)
	checkNoBody(t, encoded(more), 29, 9999*2+2+9999)
	ifs := append(slices.Repeat(ops(cond+other+end), 6666), ops(nop+end)...)
	checkShape(t, ifs, 0)
	checkBodyModel(t, encoded(ifs))
	for _, n := range []int{19998, 19999, 20000, 20001} {
		for _, list := range [][]api.Instr{plain(n), deep(n), wide(n)} {
			checkShape(t, list, trial.ShapeError(list))
			checkBodyModel(t, encoded(list))
		}
	}
	onlyIfs := slices.Concat(slices.Repeat(ops(cond), 6666), slices.Repeat(ops(other+end), 6666), ops(nop+end))
	checkShape(t, onlyIfs, 0)
	checkParseBody(t, encoded(onlyIfs), onlyIfs, 6666*4+2)
}

// TestLimitAndOtherErrors: too many instructions go ahead of a wrong shape; where the first one too many can't be read, that counts.
func TestLimitAndOtherErrors(t *testing.T) {
	full := encoded(slices.Repeat(ops(nop), 20000))
	for _, op := range []string{nop, block, other, end} {
		checkNoBody(t, slices.Concat(full, encoded(ops(op)), []byte{0x0b}), 29, 20000)
	}
	checkNoBody(t, full, 2, 20000)
	checkNoBody(t, append(slices.Clip(full), 0x92), 8, 20000)
	checkNoBody(t, append(slices.Clip(full), 0x06), 9, 20000)
	checkNoBody(t, append(slices.Clip(full), 0x02, 0x7d), 8, 20001)
	checkNoBody(t, append(slices.Clip(full), 0x41, 0x80), 2, 20001)
	checkNoBody(t, append(full[:19999:19999], 0x05), 30, 19999)
	checkNoBody(t, append(full[:19999:19999], 0x92), 8, 19999)
	checkShape(t, slices.Repeat(ops(nop), 20001), 29)
	checkShape(t, slices.Repeat(ops(other), 20001), 29)
	checkShape(t, slices.Repeat(ops(end), 20001), 29)
	checkShape(t, slices.Repeat(ops(nop), 20000), 30)
	checkShape(t, slices.Repeat(ops(block), 20000), 30)
}

// TestShapeAsksForNoMore: it looks at blocks and ends only; whether instructions may be, Put tells.
func TestShapeAsksForNoMore(t *testing.T) {
	list := []api.Instr{{Op: 0x02, A: 256}, {Op: 0x92}, {Op: 0x06, L: many(10001)}, {Op: 0x0b, A: 1}, {Op: 0x0b, B: 1}}
	if e := instr.Shape(list); e != 0 {
		t.Errorf("Shape: %d", e)
	}
}

func TestPutBody(t *testing.T) {
	list := []api.Instr{{Op: 0x04, A: 0x7f}, {Op: 0x41, A: 1<<32 - 1}, {Op: 0x05}, {Op: 0x0e, A: 0, L: []uint32{1, 0}}, {Op: 0x0b}, {Op: 0x1a}, {Op: 0x28, A: 2, B: 300}, {Op: 0x0b}}
	want := []byte{0x04, 0x7f, 0x41, 0x7f, 0x05, 0x0e, 2, 1, 0, 0, 0x0b, 0x1a, 0x28, 2, 0xac, 2, 0x0b}
	checkShape(t, list, 0)
	if b, e := instr.PutBody(list); !bytes.Equal(b, want) || e != 0 {
		t.Errorf("PutBody: % x, %d", b, e)
	}
	checkParseBody(t, append(want, 0xff), list, len(want))
}

func TestErrorsOfPutBody(t *testing.T) {
	bad := []struct {
		i api.Instr
		e api.Errno
	}{
		{api.Instr{Op: 0x92}, 8},
		{api.Instr{Op: 0x06}, 9},
		{api.Instr{Op: 0x01, A: 1}, 1},
		{api.Instr{Op: 0x0c, A: 1 << 32}, 1},
		{api.Instr{Op: 0x0e, L: many(10001)}, 29},
	}
	for _, x := range bad {
		checkPutBody(t, append([]api.Instr{x.i}, ops(end)...), x.e)
		checkPutBody(t, append(ops(block+nop), append([]api.Instr{x.i}, ops(end+end)...)...), x.e)
		// The shape goes ahead, wherever it is wrong.
		checkPutBody(t, []api.Instr{x.i}, 30)
		checkPutBody(t, append([]api.Instr{x.i}, ops(end+end)...), 30)
		checkPutBody(t, append([]api.Instr{x.i}, ops(other+end)...), 30)
		checkPutBody(t, append([]api.Instr{x.i}, slices.Repeat(ops(nop), 20000)...), 29)
		// Of several, the first one.
		for _, y := range bad {
			checkPutBody(t, append([]api.Instr{x.i, y.i}, ops(end)...), x.e)
		}
	}
	checkPutBody(t, []api.Instr{{Op: 0x02, A: 0x7d}, {Op: 0x92}, {Op: 0x0b}, {Op: 0x0b}}, 8)
	checkPutBody(t, []api.Instr{{Op: 0x02, A: 256}, {Op: 0x92}, {Op: 0x0b}, {Op: 0x0b}}, 7)
	checkPutBody(t, []api.Instr{{Op: 0x02, A: 0x40}, {Op: 0x0b, A: 1}, {Op: 0x0b, L: many(10001)}}, 1)
	checkPutBody(t, []api.Instr{{Op: 0x01}, {Op: 0x0b, B: 1}}, 1)
	checkPutBody(t, append(slices.Repeat(ops(nop), 19999), api.Instr{Op: 0x0b, A: 1}), 1)
}

// P7.4

func TestInstructionsAreReadBack(t *testing.T) {
	list := slices.Clone(samples)
	for op := range 256 {
		for _, a := range numbers {
			list = append(list, api.Instr{Op: byte(op), A: a})
			list = append(list, api.Instr{Op: byte(op), A: a, B: 1<<32 - 1 - a&0xff})
		}
	}
	list = append(list, api.Instr{Op: 0x0e, A: 1, L: many(10000)}, api.Instr{Op: 0x0e, A: 1, L: slices.Repeat([]uint32{1<<32 - 1}, 10000)})
	for _, i := range list {
		b, e := instr.Put(i)
		if e != instr.Right(i) {
			t.Errorf("Put(%x): %d", briefInstr(i), e)
		}
		if e != api.OK {
			continue
		}
		for _, more := range []string{"", "\x00", "\x01", "\x7f", "\x80", "\xff", "\x92", "\x00\x00\x00", "\xff\xff\xff\xff\xff\xff\xff\xff\xff\xff\xff", string(b)} {
			got, n, stop := instr.Parse(append(slices.Clip(b), more...))
			if !instr.Same(got, i) || !trial.SameInstr(got, i) || n != len(b) || stop != (abort.Stop{}) {
				t.Errorf("%x is read back as %x, %d, %v, with % x behind it", briefInstr(i), briefInstr(got), n, stop, brief([]byte(more)))
			}
		}
	}
}

func TestBodiesAreReadBack(t *testing.T) {
	body := slices.Concat(samples, ops(end+end))
	b, e := instr.PutBody(body)
	if e != api.OK {
		t.Fatalf("PutBody: %d", e)
	}
	for _, more := range []string{"", "\x0b", "\x05", "\x92", "\xff", string(b)} {
		checkParseBody(t, append(slices.Clip(b), more...), body, len(b))
	}
	for n := range b {
		_, _, stop := readBody(b[:n])
		checkNoBody(t, b[:n], 2, stop.At)
	}
	// Two bodies behind each other are read by one scanner.
	s := scan.Over(slices.Concat(b, b))
	for range 2 {
		got, stop := abort.Value(func() []api.Instr { return instr.GetBody(s) })
		if !slices.EqualFunc(got, body, instr.Same) || stop.Why != 0 {
			t.Errorf("GetBody: %d instructions, %v", len(got), stop)
		}
	}
	if !s.Done() {
		t.Errorf("%d bytes are left", s.Left())
	}
}

// TestInstructionsBehindEachOther are read by one scanner.
func TestInstructionsBehindEachOther(t *testing.T) {
	s := scan.Over(encoded(samples))
	for _, want := range samples {
		if got := instr.Get(s); !trial.SameInstr(got, want) {
			t.Errorf("Get: %x, want %x", got, want)
		}
	}
	if !s.Done() {
		t.Errorf("%d bytes are left", s.Left())
	}
	if stop := abort.Out(func() { instr.Get(s) }); stop != (abort.Stop{Why: 2, At: len(encoded(samples))}) {
		t.Errorf("Get behind the last one: %v", stop)
	}
}

// P1

// TestAnyBytes reads and writes what comes by chance: the same numbers each time.
func TestAnyBytes(t *testing.T) {
	next := trial.Chance(1)
	alphabet := "\x00\x01\x02\x03\x04\x05\x0b\x0b\x0b\x0c\x0e\x10\x11\x1a\x20\x28\x3f\x40\x41\x42\x6a\x7e\x7f\x80\x92\xff"
	for range 20000 {
		b := make([]byte, next(30))
		for at := range b {
			b[at] = alphabet[next(len(alphabet))]
		}
		checkModel(t, b)
		checkBodyModel(t, b)
		i := api.Instr{Op: byte(next(256)), A: numbers[next(len(numbers))]}
		if next(2) == 0 {
			i.B = numbers[next(len(numbers))]
		}
		if next(2) == 0 {
			i.L = many(next(4))
		}
		checkRight(t, i, trial.InstrError(i))
	}
}

func TestManyBytes(t *testing.T) {
	for _, x := range []byte{0x00, 0x01, 0x02, 0x04, 0x05, 0x0b, 0x0e, 0x40, 0x7f, 0x80, 0xff} {
		b := bytes.Repeat([]byte{x}, 1<<20)
		checkModel(t, b)
		checkBodyModel(t, b)
	}
	nested := bytes.Repeat([]byte{0x02, 0x40}, 1<<19)
	checkNoBody(t, nested, 29, 40000)
}

// P2

// TestArgumentsStay looks at bytes, labels and lists, and at what is behind them that there is room for.
func TestArgumentsStay(t *testing.T) {
	room := []byte{0x04, 0x40, 0x0e, 1, 2, 3, 0x05, 0x0b, 0x0b, 0x05, 0x92}
	whole := slices.Clone(room)
	for n := range len(room) + 1 {
		instr.Parse(room[:n])
		instr.ParseBody(room[:n])
	}
	if !bytes.Equal(room, whole) {
		t.Errorf("the bytes were % x and are % x", whole, room)
	}
	labels := []uint32{1, 2, 3, 4}
	i := api.Instr{Op: 0x0e, A: 5, L: labels[:2]}
	list := append(make([]api.Instr, 0, 8), i, api.Instr{Op: 0x0b}, api.Instr{Op: 0x77})
	for n := range 4 {
		instr.Right(i)
		instr.Put(i)
		instr.Same(i, i)
		instr.Shape(list[:n])
		instr.PutBody(list[:n])
	}
	if !slices.Equal(labels, []uint32{1, 2, 3, 4}) || !trial.SameInstr(list[0], i) || list[1].Op != 0x0b || list[2].Op != 0x77 {
		t.Errorf("the labels are %d, the list is %x", labels, list)
	}
	for _, more := range list[3:8] {
		if !isZero(more) {
			t.Errorf("behind the list stands %x", more)
		}
	}
}

// TestArgumentsAreNotKept changes the bytes behind Parse, and the labels behind Put.
func TestArgumentsAreNotKept(t *testing.T) {
	b := []byte{0x0e, 2, 5, 6, 7}
	got, _, _ := instr.Parse(b)
	clear(b)
	if !trial.SameInstr(got, api.Instr{Op: 0x0e, A: 7, L: []uint32{5, 6}}) {
		t.Errorf("Parse: %x", got)
	}
	i := api.Instr{Op: 0x0e, A: 7, L: []uint32{5, 6}}
	put, _ := instr.Put(i)
	body, _ := instr.PutBody(append([]api.Instr{i}, ops(end)...))
	clear(i.L)
	if !bytes.Equal(put, []byte{0x0e, 2, 5, 6, 7}) || !bytes.Equal(body, []byte{0x0e, 2, 5, 6, 7, 0x0b}) {
		t.Errorf("Put: % x, PutBody: % x", put, body)
	}
}

// TestResultsAreNew spoils results, with all that they have room for, and asks again.
func TestResultsAreNew(t *testing.T) {
	for _, i := range samples {
		want := []byte(trial.InstrBytes(i))
		for range 3 {
			b, _ := instr.Put(i)
			if !bytes.Equal(b, want) {
				t.Errorf("Put(%x): % x", i, b)
			}
			trial.Spoil(b, 0xee)
		}
	}
	body := ops(block + end + end)
	for range 3 {
		b, _ := instr.PutBody(body)
		if !bytes.Equal(b, encoded(body)) {
			t.Errorf("PutBody: % x", b)
		}
		trial.Spoil(b, 0xee)
	}
	b := []byte{0x0e, 2, 5, 6, 7, 0x0e, 1, 8, 9, 0x0e, 0, 1, 0x0b}
	first, _, _ := instr.ParseBody(b)
	for at := range first {
		trial.Spoil(first[at].L, 0xeeee)
		if again, _, _ := instr.ParseBody(b); len(again) != 4 || !slices.Equal(again[0].L, []uint32{5, 6}) || !slices.Equal(again[1].L, []uint32{8}) || len(again[2].L) != 0 {
			t.Errorf("ParseBody: %x", again)
		}
	}
	second, _, _ := instr.ParseBody(b)
	_ = append(second[0].L, 0xeeee, 0xeeee)
	second[0].L[0], second[0].L[1] = 0xeeee, 0xeeee
	if !slices.Equal(second[1].L, []uint32{8}) {
		t.Errorf("the lists of two instructions share memory: %x", second)
	}
}

// TestCallsDoNotMatter asks the same again after calls that fail.
func TestCallsDoNotMatter(t *testing.T) {
	for range 3 {
		checkNoParse(t, []byte{0x0e, 2, 1}, 2, 3)
		checkNoBody(t, []byte{0x02, 0x40, 0x05}, 30, 2)
		checkPutBody(t, ops(end+end), 30)
		checkRight(t, api.Instr{Op: 0x0e, L: many(10001)}, 29)
		checkParse(t, []byte{0x0e, 1, 1, 2}, api.Instr{Op: 0x0e, A: 2, L: []uint32{1}}, 4)
		checkParseBody(t, []byte{0x04, 0x40, 0x05, 0x0b, 0x0b}, ops(cond+other+end+end), 5)
	}
}
