package bodies_test

import (
	"math"
	"slices"
	"strings"
	"testing"

	"creel/abort"
	"creel/api"
	"creel/bodies"
	"creel/scan"
	"creel/trial"
)

// The model is written from the chapters with numbers of its own, and asks no layer; most of it stands in package trial.

// modelTypes is P14.1's second sentence.
func modelTypes(t api.FuncType, list []api.Local) (string, api.Errno) {
	if _, e := trial.CountLocals(list); e != 0 {
		return "", e
	}
	s := t.Params
	for _, x := range list {
		for range x.N {
			s += string([]byte{x.T})
		}
	}
	return s, 0
}

// What the tests are made of.

// group is so many locals of a type.
func group(n uint32, t byte) api.Local { return api.Local{N: n, T: t} }

// groups are so many, which differ from each other and declare one local at most, and no more than 1000 in all.
func groups(n int) []api.Local {
	list := make([]api.Local, n)
	for at := range list {
		list[at] = group(0, "\x7f\x7e"[at/2%2])
		if at%2 == 0 && at < 2000 {
			list[at].N = 1
		}
	}
	return list
}

// code is a body of instructions with as little behind them as may be.
func code(ops string, list ...api.Local) api.Code {
	return api.Code{Locals: list, Body: trial.Plains(ops)}
}

// nops is a body with so many instructions.
func nops(n int) string { return strings.Repeat(trial.Nop, n-1) + trial.End }

// kinds are instructions with each kind of what is behind the opcode, and the bytes of all of them.
func kinds() ([]api.Instr, string) {
	var list []api.Instr
	var b string
	for _, x := range []trial.Sample[api.Instr]{
		{E: api.Instr{Op: 0x02, A: 0x7e}, B: "\x02\x7e"},
		{E: api.Instr{Op: 0x0b}, B: "\x0b"},
		{E: api.Instr{Op: 0x0d, A: 300}, B: "\x0d\xac\x02"},
		{E: api.Instr{Op: 0x0e, A: 7}, B: "\x0e\x00\x07"},
		{E: api.Instr{Op: 0x0e, A: 7, L: []uint32{128, 5}}, B: "\x0e\x02\x80\x01\x05\x07"},
		{E: api.Instr{Op: 0x11, A: 300}, B: "\x11\xac\x02\x00"},
		{E: api.Instr{Op: 0x20, A: math.MaxUint32}, B: "\x20\xff\xff\xff\xff\x0f"},
		{E: api.Instr{Op: 0x28, A: 2, B: 128}, B: "\x28\x02\x80\x01"},
		{E: api.Instr{Op: 0x3f}, B: "\x3f\x00"},
		{E: api.Instr{Op: 0x41, A: math.MaxUint32}, B: "\x41\x7f"},
		{E: api.Instr{Op: 0x41, A: 11}, B: "\x41\x0b"},
		{E: api.Instr{Op: 0x42, A: 1 << 63}, B: "\x42\x80\x80\x80\x80\x80\x80\x80\x80\x80\x7f"},
		{E: api.Instr{Op: 0x6a}, B: "\x6a"},
	} {
		list = append(list, x.E)
		b += x.B
	}
	return list, b
}

// Checks.

func checkCount(t *testing.T, list []api.Local, want int, e api.Errno) {
	t.Helper()
	if n, got := bodies.Count(list); n != want || got != e {
		t.Errorf("Count(%d %v): %d, %d, want %d, %d", len(list), few(list), n, got, want, e)
	}
}

func checkTypes(t *testing.T, params string, list []api.Local, want string, e api.Errno) {
	t.Helper()
	for _, results := range []string{"", "\x7f", "\x7e\x00\xff"} {
		if s, got := bodies.Types(api.FuncType{Params: params, Results: results}, list); s != want || got != e {
			t.Errorf("Types(% x, %d %v): % x (%d bytes), %d, want % x (%d bytes), %d", trial.Short(params), len(list), few(list), trial.Short(s), len(s), got, trial.Short(want), len(want), e)
		}
	}
}

// few are what of a long list is worth telling.
func few[E any](list []E) []E { return list[:min(len(list), 9)] }

// layer is what reads and writes.
var layer = trial.Layer[api.Code]{
	Right:  bodies.Right,
	Put:    bodies.Put,
	Get:    bodies.Get,
	GetAll: bodies.GetAll,
	PutAll: bodies.PutAll,

	ModelRight: trial.CodeError,
	ModelLate:  trial.LateError,
	ModelPut:   trial.CodeBytes,
	ModelGet:   (*trial.Model).Code,

	Samples: samples,
	Wrong:   wrong,
	Broken:  broken(),
	Any:     anyCode,
	Other:   api.Code{Locals: []api.Local{{N: 7, T: 7}}, Body: []api.Instr{{Op: 0x77, A: 7, B: 7}}},
	Same:    trial.SameCode,
	Tell:    func(c api.Code) any { return tell(c) },
}

// one and all read a body, and a list of them.
var one, all = layer.One(), layer.All()

// tell is a body with no more than is worth telling.
func tell(c api.Code) api.Code {
	c.Locals, c.Body = few(c.Locals), slices.Clone(few(c.Body))
	for at := range c.Body {
		c.Body[at].L = few(c.Body[at].L)
	}
	return c
}

// samples has the chapter's example ahead; then groups of all kinds, and bodies of all kinds.
func samples() []trial.Sample[api.Code] {
	list, b := kinds()
	return []trial.Sample[api.Code]{
		{E: code("\x0b"), B: "\x02\x00\x0b"},
		{E: code("\x01\x0b", group(3, 0x7f)), B: "\x05\x01\x03\x7f\x01\x0b"},
		{E: code("\x0b", group(0, 0x7f)), B: "\x04\x01\x00\x7f\x0b"},
		{E: code("\x0b", group(0, 0x7e), group(0, 0x7e), group(0, 0x7f)), B: "\x08\x03\x00\x7e\x00\x7e\x00\x7f\x0b"},
		{E: code("\x0b", group(1, 0x7e)), B: "\x04\x01\x01\x7e\x0b"},
		{E: code("\x0b", group(127, 0x7e)), B: "\x04\x01\x7f\x7e\x0b"},
		{E: code("\x0b", group(128, 0x7e)), B: "\x05\x01\x80\x01\x7e\x0b"},
		{E: code("\x0b", group(999, 0x7f)), B: "\x05\x01\xe7\x07\x7f\x0b"},
		{E: code("\x0b", group(1000, 0x7f)), B: "\x05\x01\xe8\x07\x7f\x0b"},
		{E: code("\x0b", group(2, 0x7f), group(0, 0x7f), group(1, 0x7e), group(2, 0x7f)), B: "\x0a\x04\x02\x7f\x00\x7f\x01\x7e\x02\x7f\x0b"},
		{E: code("\x0b", group(500, 0x7f), group(499, 0x7e), group(1, 0x7e)), B: "\x0a\x03\xf4\x03\x7f\xf3\x03\x7e\x01\x7e\x0b"},
		{E: code("\x0f\x1a\x0b"), B: "\x04\x00\x0f\x1a\x0b"},
		{E: code("\x02\x0b\x0b"), B: "\x05\x00\x02\x40\x0b\x0b"},
		{E: code("\x02\x03\x04\x05\x0b\x0b\x01\x0b\x0b"), B: "\x0d\x00\x02\x40\x03\x40\x04\x40\x05\x0b\x0b\x01\x0b\x0b"},
		{E: code("\x04\x0b\x04\x01\x05\x04\x0b\x0b\x0b", group(1, 0x7f)), B: "\x0f\x01\x01\x7f\x04\x40\x0b\x04\x40\x01\x05\x04\x40\x0b\x0b\x0b"},
		{E: api.Code{Body: append(list, api.Instr{Op: 0x0b})}, B: trial.Uint(len(b)+2) + "\x00" + b + "\x0b"},
		{E: code(nops(126)), B: "\x7f\x00" + nops(126)},
		{E: code(nops(127)), B: "\x80\x01\x00" + nops(127)},
	}
}

// wrong are bodies that may not be, with two errors in some: the first one counts.
func wrong() []trial.Bad[api.Code] {
	list := []trial.Bad[api.Code]{
		{E: code("\x0b", groups(10001)...), Why: 29},
		{E: code("\x0b", group(1001, 0x7f)), Why: 23},
		{E: code("\x0b", group(1, 0x7f), group(0, 0x7d), group(2, 0x7f)), Why: 8},
		{E: code("\x0b", group(1, 0x40)), Why: 7},
		{E: api.Code{}, Why: 30},
		{E: code("\x01", group(1, 0x7f)), Why: 30},
		{E: code("\x0b\x0b"), Why: 30},
		{E: code("\x0b\x01"), Why: 30},
		{E: code("\x02\x0b"), Why: 30},
		{E: code("\x02\x05\x0b\x0b"), Why: 30},
		{E: code(nops(20001)), Why: 29},
		// The number of groups, how many locals there are, their types, the shape, and what else is wrong with instructions.
		{E: code("\x0b", append(groups(10001), group(1001, 0x40))...), Why: 29},
		{E: code("\x92", group(999, 0x40), group(2, 0x7d)), Why: 23},
		{E: code("\x92", group(1000, 0x40), group(0, 0x7d)), Why: 7},
		{E: code("\x92", group(1000, 0x7d), group(0, 0x40)), Why: 8},
		{E: code("\x92", group(1000, 0x7f)), Why: 30},
		{E: code("\x92" + nops(20000)), Why: 29},
		{E: code("\x92\x0b\x0b"), Why: 30},
	}
	for _, x := range lateErrors() {
		list = append(list, trial.Bad[api.Code]{E: api.Code{Body: append([]api.Instr{x.E}, trial.Plains("\x0b")...)}, Why: x.Why})
	}
	return list
}

// lateErrors are instructions that may not be, though they are no blocks, elses and ends.
func lateErrors() []trial.Bad[api.Instr] {
	return []trial.Bad[api.Instr]{
		{E: api.Instr{Op: 0x92}, Why: 8},
		{E: api.Instr{Op: 0x06}, Why: 9},
		{E: api.Instr{Op: 0x01, A: 1}, Why: 1},
		{E: api.Instr{Op: 0x20, A: 1 << 32}, Why: 1},
		{E: api.Instr{Op: 0x6a, L: []uint32{0}}, Why: 1},
		{E: api.Instr{Op: 0x0e, L: make([]uint32, 10001)}, Why: 29},
	}
}

// broken has what is no number of bytes, what ends too early, and what is wrong inside.
func broken() []trial.Broken {
	list := trial.BrokenNumbers("")
	for _, size := range []string{"\x80\x80\x80\x01", "\xff\xff\xff\x7f", "\x80\x80\x80\x80\x08", "\xff\xff\xff\xff\x0f"} {
		list = append(list, trial.Broken{B: size, Why: 2, At: len(size)}, trial.Broken{B: size + "\x00\x06", Why: 2, At: len(size)})
	}
	for _, x := range slices.Concat(brokenGroups(), brokenBodies()) {
		size := trial.Uint(len(x.B))
		list = append(list, trial.Broken{B: size + x.B, Why: x.Why, At: len(size) + x.At})
		// The same in more bytes, and with others behind it.
		list = append(list, trial.Broken{B: "\x85\x81\x00" + x.B + strings.Repeat("\x0b", 133-len(x.B)), Why: x.Why, At: 3 + x.At})
	}
	// Those that are too short have nothing behind them.
	for _, x := range shortOnes() {
		size := trial.Uint(len(x.B))
		list = append(list, trial.Broken{B: size + x.B, Why: 2, At: len(size) + x.At})
	}
	return list
}

// brokenGroups are what stands behind the number of bytes, with groups that may not be.
func brokenGroups() []trial.Broken {
	list := slices.Concat(
		trial.BrokenNumbers("", "\x01", "\x02\x03\x7f", "\x90\x4e\x80\x01\x7e"),
		trial.BrokenBytes(trial.TypeError, "\x01\x03", "\x02\x00\x7e\x80\x00"),
	)
	for _, many := range []string{"\x91\x4e", "\x91\xce\x80\x80\x00", "\x80\x80\x01", "\xff\xff\xff\xff\x0f"} {
		list = append(list, trial.Broken{B: many, Why: 29}, trial.Broken{B: many + "\x01\x7f\x0b", Why: 29})
	}
	for _, many := range []string{
		"\x01\xe9\x07\x7f",
		"\x01\xff\xff\xff\xff\x0f\x7f",
		"\x02\xe8\x07\x7f\x01\x7e",
		"\x02\x01\x7f\xe8\x07\x7e",
		"\x03\xe8\x07\x7f\x00\x7f\x01\x7e",
		"\x02\x80\x80\x80\x80\x08\x7f\x80\x80\x80\x80\x08\x7f", // 2^32
		"\x02\xff\xff\xff\xff\x0f\x7f\x02\x7e",                 // 2^32 + 1
		"\x04" + strings.Repeat("\x80\x80\x80\x80\x04\x7f", 4), // 2^32
	} {
		list = append(list, trial.Broken{B: many, Why: 23}, trial.Broken{B: many + "\x0b", Why: 23}, trial.Broken{B: many + "\x06", Why: 23})
	}
	// All groups are read ahead of their sum.
	return append(list,
		trial.Broken{B: "\x02\xe9\x07\x7f\x01\x40", Why: 7, At: 5},
		trial.Broken{B: "\x02\xe9\x07\x7f\x01\x7d", Why: 8, At: 5},
		trial.Broken{B: "\x02\xe9\x07\x7f\x80\x80\x80\x80\x10", Why: 3, At: 4},
	)
}

// brokenBodies are likewise, with bodies that may not be.
func brokenBodies() []trial.Broken {
	var list []trial.Broken
	for _, lead := range []string{"\x00", "\x01\x03\x7f", "\x02\xe7\x07\x7e\x01\x7f"} {
		for _, x := range []trial.Broken{
			{B: "\x05", Why: 30},
			{B: "\x02\x40\x05", Why: 30, At: 2},
			{B: "\x04\x40\x05\x05", Why: 30, At: 3},
			{B: "\x06", Why: 9},
			{B: "\x01\x92", Why: 8, At: 1},
			{B: "\x02\x7d", Why: 8, At: 1},
			{B: "\x02\x41", Why: 7, At: 1},
			{B: "\x0c\x80\x80\x80\x80\x10", Why: 3, At: 1},
			{B: "\x41\xff\xff\xff\xff\x0f", Why: 3, At: 1},
			{B: "\x0e\x91\x4e", Why: 29, At: 1},
			{B: "\x11\x05\x01", Why: 10, At: 2},
			{B: "\x0b\x00", Why: 14, At: 1},
			{B: "\x0b\x0b", Why: 14, At: 1},
			{B: "\x0b\x06", Why: 14, At: 1},
			{B: "\x02\x40\x0b\x01\x0b\x05", Why: 14, At: 5},
		} {
			list = append(list, trial.Broken{B: lead + x.B, Why: x.Why, At: len(lead) + x.At})
		}
	}
	return list
}

// shortOnes end, as their number of bytes tells, ahead of the end of the body: each at the part that is not whole.
func shortOnes() []trial.Broken {
	var list []trial.Broken
	const good = "\x02\x83\x00\x7f\x05\x7e\x04\x40\x41\xc0\x00\x1a\x05\x0b\x0b"
	part := 0
	for n := range len(good) {
		if slices.Contains([]int{1, 3, 4, 5, 6, 7, 8, 9, 11, 12, 13, 14}, n) {
			part = n
		}
		list = append(list, trial.Broken{B: good[:n], At: part})
	}
	return list
}

// P14.1

// TestCount has no groups, one and several, and sums about the limit.
func TestCount(t *testing.T) {
	checkCount(t, nil, 0, 0)
	checkCount(t, []api.Local{}, 0, 0)
	for _, n := range []uint32{0, 1, 2, 127, 128, 999, 1000} {
		checkCount(t, []api.Local{group(n, 0x7f)}, int(n), 0)
		checkCount(t, []api.Local{group(0, 0x7f), group(n, 0x7f), group(0, 0x7e)}, int(n), 0)
		checkCount(t, []api.Local{group(n, 0x7f), group(1000-n, 0x7e)}, 1000, 0)
		checkCount(t, []api.Local{group(n, 0x7f), group(1001-n, 0x7e)}, 0, 23)
		checkCount(t, []api.Local{group(n, 0x7f), group(1000-n, 0x7e), group(0, 0x7f)}, 1000, 0)
		checkCount(t, []api.Local{group(n, 0x7f), group(1000-n, 0x7e), group(1, 0x7f)}, 0, 23)
	}
	for _, n := range []uint32{1001, 1002, 1 << 16, 1<<31 - 1, 1 << 31, 1<<31 + 1, math.MaxUint32 - 1, math.MaxUint32} {
		checkCount(t, []api.Local{group(n, 0x7f)}, 0, 23)
		checkCount(t, []api.Local{group(0, 0x7f), group(n, 0x7f)}, 0, 23)
		checkCount(t, []api.Local{group(n, 0x7f), group(0, 0x7f)}, 0, 23)
		checkCount(t, []api.Local{group(1000, 0x7f), group(n, 0x7f), group(1, 0x7f)}, 0, 23)
	}
	checkCount(t, []api.Local{group(2, 0x7f), group(3, 0x7e), group(0, 0x7f), group(5, 0x7f)}, 10, 0)
}

// TestCountOfOtherTypes: nobody asks there for the types.
func TestCountOfOtherTypes(t *testing.T) {
	for b := range 256 {
		checkCount(t, []api.Local{group(3, byte(b)), group(997, 0)}, 1000, 0)
		checkCount(t, []api.Local{group(3, byte(b)), group(998, 0)}, 0, 23)
	}
}

// TestCountOfLargeSums has sums whose lower 32 bits are those of a small number, and some that have many more bits.
func TestCountOfLargeSums(t *testing.T) {
	for rest := range uint32(3) {
		for _, list := range [][]api.Local{
			{group(1<<31, 0x7f), group(1<<31+rest, 0x7f)},
			{group(math.MaxUint32, 0x7f), group(1+rest, 0x7f)},
			{group(1+rest, 0x7f), group(math.MaxUint32, 0x7f)},
			{group(500, 0x7f), group(math.MaxUint32-500+1, 0x7f), group(rest, 0x7f)},
			append(slices.Repeat([]api.Local{group(1<<30, 0x7f)}, 4), group(rest, 0x7e)),
			append(slices.Repeat([]api.Local{group(math.MaxUint32, 0x7f)}, 2), group(2+rest, 0x7e)),
		} {
			checkCount(t, list, 0, 23)
			checkTypes(t, "\x7f", list, "", 23)
			layer.Judges(t, code("\x0b", list...), 23)
		}
	}
	// 2^16 times 2^16 is 2^32, and 2^20 of the largest ones are as far beyond it as the bound of all there is lets them be.
	checkCount(t, slices.Repeat([]api.Local{group(1<<16, 0x7f)}, 1<<16), 0, 23)
	checkCount(t, slices.Repeat([]api.Local{group(math.MaxUint32, 0x7f)}, 1<<20), 0, 23)
	checkCount(t, slices.Repeat([]api.Local{group(1<<31, 0x7f)}, 1<<20), 0, 23)
}

// TestCountOfManyGroups: nobody asks there how many groups there may be.
func TestCountOfManyGroups(t *testing.T) {
	checkCount(t, groups(10000), 1000, 0)
	checkCount(t, groups(10001), 1000, 0)
	checkCount(t, groups(1<<20), 1000, 0)
	checkCount(t, make([]api.Local, 1<<20), 0, 0)
	checkCount(t, append(groups(1<<20), group(1, 0x7f)), 0, 23)
	checkCount(t, slices.Repeat([]api.Local{group(1, 0x7f)}, 1000), 1000, 0)
	checkCount(t, slices.Repeat([]api.Local{group(1, 0x7f)}, 1001), 0, 23)
}

func TestTypes(t *testing.T) {
	checkTypes(t, "", nil, "", 0)
	checkTypes(t, "", []api.Local{}, "", 0)
	checkTypes(t, "\x7f", nil, "\x7f", 0)
	checkTypes(t, "\x7f\x7e\x7e", []api.Local{}, "\x7f\x7e\x7e", 0)
	checkTypes(t, "", []api.Local{group(1, 0x7e)}, "\x7e", 0)
	checkTypes(t, "", []api.Local{group(3, 0x7f), group(1, 0x7e), group(2, 0x7f)}, "\x7f\x7f\x7f\x7e\x7f\x7f", 0)
	checkTypes(t, "\x7e", []api.Local{group(2, 0x7f)}, "\x7e\x7f\x7f", 0)
	checkTypes(t, "\x7f\x7e", []api.Local{group(1, 0x7f), group(2, 0x7e)}, "\x7f\x7e\x7f\x7e\x7e", 0)
	checkTypes(t, "\x7e", []api.Local{group(0, 0x7f)}, "\x7e", 0)
	checkTypes(t, "", []api.Local{group(0, 0x7f), group(0, 0x7e)}, "", 0)
	checkTypes(t, "\x7e", []api.Local{group(0, 0x7f), group(1, 0x7e), group(0, 0x7f), group(1, 0x7f), group(0, 0x7e)}, "\x7e\x7e\x7f", 0)
}

// TestTypesOfMany: the parameters do not count as locals of the groups.
func TestTypesOfMany(t *testing.T) {
	i32, i64 := strings.Repeat("\x7f", 3000), strings.Repeat("\x7e", 3000)
	for _, params := range []string{"", "\x7e", i64[:1000], i64[:1001], i64} {
		checkTypes(t, params, []api.Local{group(999, 0x7f)}, params+i32[:999], 0)
		checkTypes(t, params, []api.Local{group(1000, 0x7f)}, params+i32[:1000], 0)
		checkTypes(t, params, []api.Local{group(1001, 0x7f)}, "", 23)
		checkTypes(t, params, []api.Local{group(400, 0x7f), group(600, 0x7e)}, params+i32[:400]+i64[:600], 0)
		checkTypes(t, params, []api.Local{group(400, 0x7f), group(601, 0x7e)}, "", 23)
		checkTypes(t, params, []api.Local{group(1<<31, 0x7f), group(1<<31, 0x7e)}, "", 23)
	}
	checkTypes(t, "\x7f", groups(10001), "\x7f"+strings.Repeat("\x7f\x7e", 500), 0)
	checkTypes(t, "\x7f", make([]api.Local, 1<<20), "\x7f", 0)
}

// TestTypesAsTheyStand: nobody asks there for the types, which are bytes, and no text.
func TestTypesAsTheyStand(t *testing.T) {
	for b := range 256 {
		s := string([]byte{byte(b)})
		checkTypes(t, s, []api.Local{group(2, byte(b))}, s+s+s, 0)
		checkTypes(t, s+"\x7f", []api.Local{group(1, 0x7e), group(1, byte(b))}, s+"\x7f\x7e"+s, 0)
	}
	checkTypes(t, "\u20ac", []api.Local{group(1, 0xe2), group(1, 0x82), group(1, 0xac)}, "\u20ac\u20ac", 0)
}

// TestAllShortLists has all lists of up to four groups of some sizes and types.
func TestAllShortLists(t *testing.T) {
	var alphabet []api.Local
	for _, n := range []uint32{0, 1, 500, 1000, 1 << 31} {
		alphabet = append(alphabet, group(n, 0x7f), group(n, 0x7e), group(n, 0x7d))
	}
	for n := range 4 {
		trial.Words(alphabet, n, func(list []api.Local) {
			count, e := trial.CountLocals(list)
			checkCount(t, list, count, e)
			types, e := modelTypes(api.FuncType{Params: "\x7e\x7f"}, list)
			checkTypes(t, "\x7e\x7f", list, types, e)
			layer.AgreesOn(t, code("\x01\x0b", list...))
			layer.AgreesOn(t, code("\x01", list...))
			one.Agrees(t, trial.Sized(trial.LocalBytes(list)+"\x01\x0b"))
			one.Agrees(t, trial.Sized(trial.LocalBytes(list)+"\x01"))
		})
	}
}

// TestNumberOfGroups has 10000 groups and one more.
func TestNumberOfGroups(t *testing.T) {
	for _, n := range []int{0, 1, 127, 128, 9999, 10000} {
		c := code("\x0b", groups(n)...)
		b := trial.CodeBytes(c)
		layer.Writes(t, c, b)
		one.Takes(t, b+"\x00", c, len(b))
	}
	for _, n := range []int{10001, 10002, 20000, 1 << 20} {
		layer.Judges(t, code("\x0b", groups(n)...), 29)
		b := trial.Sized(trial.LocalBytes(groups(n)) + "\x0b")
		one.Refuses(t, b, 29, len(trial.Uint(len(b))))
	}
	layer.Judges(t, code("\x0b", make([]api.Local, 10000)...), 7)
	layer.Judges(t, code("\x0b", make([]api.Local, 10001)...), 29)
	layer.Judges(t, code("\x0b", slices.Repeat([]api.Local{group(math.MaxUint32, 0x7f)}, 10000)...), 23)
	layer.Judges(t, code("\x0b", slices.Repeat([]api.Local{group(math.MaxUint32, 0x7f)}, 10001)...), 29)
}

// TestEveryType has all bytes as the type of a group: of the only one, of the first and of the last one, and of one that declares nothing.
func TestEveryType(t *testing.T) {
	for x := range 256 {
		b := byte(x)
		s := string([]byte{b})
		e := trial.TypeError(b)
		for _, n := range []uint32{0, 1, 5} {
			layer.Judges(t, code("\x0b", group(n, b)), e)
			layer.Judges(t, code("\x0b", group(n, b), group(1, 0x7e)), e)
			layer.Judges(t, code("\x0b", group(1, 0x7f), group(2, 0x7e), group(n, b)), e)
			if e == 0 {
				one.Takes(t, "\x04\x01"+trial.Uint(n)+s+"\x0b", code("\x0b", group(n, b)), 5)
			} else {
				one.Refuses(t, "\x04\x01"+trial.Uint(n)+s+"\x0b", e, 3)
				one.Refuses(t, "\x08\x03\x01\x7f\x02\x7e"+trial.Uint(n)+s+"\x0b", e, 7)
			}
		}
	}
	layer.Judges(t, code("\x0b", group(0, 0x7c), group(0, 0x70)), 8)
	layer.Judges(t, code("\x0b", group(0, 0x70), group(0, 0x7c)), 7)
	layer.Judges(t, code("\x0b", group(1, 0x7f), group(1, 0x7d), group(1, 0x00)), 8)
	layer.Judges(t, code("\x0b", append(groups(9999), group(0, 0x7d))...), 8)
}

// TestShapes has bodies that are empty, that have no end, that go on behind it, and elses and blocks in all orders.
func TestShapes(t *testing.T) {
	layer.Judges(t, api.Code{}, 30)
	layer.Judges(t, api.Code{Body: []api.Instr{}}, 30)
	for n := range 6 {
		trial.Words([]byte(trial.Nop+trial.Block+trial.If+trial.Else+trial.End), n, func(ops []byte) {
			c := code(string(ops), group(2, 0x7f))
			layer.AgreesOn(t, c)
			one.Agrees(t, trial.CodeBytes(c))
		})
	}
}

// TestLongBodies has 20000 instructions and one more, in one block and in many.
func TestLongBodies(t *testing.T) {
	const from = 4 // behind three bytes that tell how many follow, and the number of groups
	for _, n := range []int{19999, 20000} {
		c := code(nops(n))
		layer.Writes(t, c, trial.Uint(n+1)+"\x00"+nops(n))
		one.Takes(t, trial.Uint(n+1)+"\x00"+nops(n)+"\x0b", c, from+n)
	}
	for _, n := range []int{20001, 20002, 40000} {
		layer.Judges(t, code(nops(n)), 29)
		one.Refuses(t, trial.Uint(n+1)+"\x00"+nops(n), 29, from+20000)
	}
	layer.Judges(t, code(strings.Repeat(trial.Nop, 20000)), 30)
	layer.Judges(t, code(strings.Repeat(trial.Else, 20001)), 29)
	deep := strings.Repeat(trial.Block, 9999) + strings.Repeat(trial.End, 10000)
	for _, c := range []api.Code{code(deep), code(trial.Nop+deep, group(1000, 0x7e))} {
		b := trial.CodeBytes(c)
		layer.Writes(t, c, b)
		one.Takes(t, b, c, len(b))
	}
	layer.Judges(t, code(trial.Nop+trial.Nop+deep), 29)
	layer.Judges(t, code(trial.Block+deep), 30)
	layer.Judges(t, code(deep+trial.End), 30)
	one.Agrees(t, trial.Sized("\x00"+trial.BodyBytes(trial.Plains(trial.Nop+trial.Nop+deep))))
	one.Refuses(t, trial.Sized("\x00"+strings.Repeat("\x01", 20000)+"\x06"), 9, from+20000)
	one.Refuses(t, trial.Sized("\x00"+strings.Repeat("\x01", 20000)), 2, from+20000)
}

// TestFirstErrorOfRight has each error with each of the others.
func TestFirstErrorOfRight(t *testing.T) {
	lists := []trial.Bad[[]api.Local]{
		{E: nil},
		{E: groups(10000)},
		{E: groups(10001), Why: 29},
		{E: append(groups(10001), group(1, 0x7f)), Why: 29},
		{E: append(groups(10001), group(1, 0x7d)), Why: 29},
		{E: append(groups(10001), group(0, 0x40)), Why: 29},
		{E: append(groups(9999), group(1, 0x40)), Why: 23},
		{E: append(groups(9999), group(math.MaxUint32, 0x7d)), Why: 23},
		{E: []api.Local{group(0, 0x40), group(1001, 0x7d)}, Why: 23},
		{E: []api.Local{group(0, 0x7d), group(1000, 0x40)}, Why: 8},
		{E: []api.Local{group(1000, 0x7f), group(0, 0x40)}, Why: 7},
	}
	for _, x := range lists {
		for _, y := range []struct {
			list     []api.Instr
			why, put api.Errno
		}{
			{trial.Plains("\x0b"), 0, 0},
			{nil, 30, 30},
			{trial.Plains("\x92"), 30, 30},
			{trial.Plains("\x06\x0b\x0b"), 30, 30},
			{trial.Plains("\x05" + nops(20000)), 29, 29},
			{trial.Plains("\x92\x06\x0b"), 0, 8},
			{trial.Plains("\x06\x92\x0b"), 0, 9},
			{[]api.Instr{{Op: 0x0b, A: 1}}, 0, 1},
		} {
			c := api.Code{Locals: x.E, Body: y.list}
			why, put := y.why, y.put
			if x.Why != 0 {
				why, put = x.Why, x.Why
			}
			if e := bodies.Right(c); e != why {
				t.Errorf("Right(%+v): %d, want %d", tell(c), e, why)
			}
			if b, e := bodies.Put(c); e != put || e != 0 && len(b) != 0 {
				t.Errorf("Put(%+v): %d bytes, %d, want %d", tell(c), len(b), e, put)
			}
			layer.AgreesOn(t, c)
		}
	}
}

// P14.2

func TestPut(t *testing.T) { layer.TestPut(t) }

// TestExample is the chapter's.
func TestExample(t *testing.T) {
	layer.Writes(t, api.Code{Body: []api.Instr{{Op: 0x0b}}}, "\x02\x00\x0b")
	one.Takes(t, "\x02\x00\x0b", api.Code{Body: []api.Instr{{Op: 0x0b}}}, 3)
}

// TestPutOfEmptyLists: an empty list is the same as none.
func TestPutOfEmptyLists(t *testing.T) {
	for _, x := range samples() {
		for at := range x.E.Body {
			if len(x.E.Body[at].L) == 0 {
				x.E.Body[at].L = []uint32{}
			}
		}
		x.E.Locals = append([]api.Local{}, x.E.Locals...)
		layer.Writes(t, x.E, x.B)
	}
}

// TestEdgesOfN has each number of locals that may be.
func TestEdgesOfN(t *testing.T) {
	for n := range uint32(1001) {
		c := code("\x0b", group(n, 0x7e), group(1000-n, 0x7f))
		b := trial.Sized("\x02" + trial.Uint(n) + "\x7e" + trial.Uint(1000-n) + "\x7f\x0b")
		layer.Writes(t, c, b)
		one.Takes(t, b, c, len(b))
	}
	one.Takes(t, "\x06\x01\xff\x80\x00\x7f\x0b", code("\x0b", group(127, 0x7f)), 7)
}

// TestSizes has numbers of bytes of one, two and three bytes.
func TestSizes(t *testing.T) {
	for _, x := range []struct {
		n    int // of bytes behind their number
		size string
	}{
		{2, "\x02"}, {3, "\x03"}, {126, "\x7e"}, {127, "\x7f"}, {128, "\x80\x01"}, {129, "\x81\x01"},
		{1<<14 - 1, "\xff\x7f"}, {1 << 14, "\x80\x80\x01"}, {1<<14 + 1, "\x81\x80\x01"}, {20001, "\xa1\x9c\x01"},
	} {
		c := code(nops(x.n - 1))
		b := x.size + "\x00" + nops(x.n-1)
		layer.Writes(t, c, b)
		one.Takes(t, b+"\x0b", c, len(b))
		one.Refuses(t, b[:len(b)-1], 2, len(x.size))
		layer.WritesAll(t, []api.Code{c, c}, "\x02"+b+b, 0)
		all.Takes(t, "\x02"+b+b, []api.Code{c, c}, 1+2*len(b))
	}
	// One with many labels has more bytes than may be in a module.
	c := api.Code{Body: append(slices.Repeat([]api.Instr{{Op: 0x0e, L: make([]uint32, 10000)}}, 210), trial.Plains("\x0b")...)}
	b := trial.CodeBytes(c)
	layer.Writes(t, c, b)
	if !strings.HasPrefix(b, "\xea\x9c\x80\x01\x00\x0e\x90\x4e") { // 210 times 10004, and 2
		t.Errorf("% x", trial.Short(b))
	}
	one.Takes(t, b, c, len(b))
}

// TestWrongInstructions has what Put refuses in a body whose shape is right: the first of them counts, and all of them behind what Right refuses.
func TestWrongInstructions(t *testing.T) {
	bad := append(lateErrors(),
		trial.Bad[api.Instr]{E: api.Instr{Op: 0x02, A: 0x41}, Why: 7},
		trial.Bad[api.Instr]{E: api.Instr{Op: 0x03, A: 256 + 0x7f}, Why: 7},
		trial.Bad[api.Instr]{E: api.Instr{Op: 0x04, A: 0x7d}, Why: 8},
		trial.Bad[api.Instr]{E: api.Instr{Op: 0x02, A: 0x40, B: 1}, Why: 1},
	)
	ends := map[bool][]api.Instr{true: trial.Plains("\x0b\x0b"), false: trial.Plains("\x0b")}
	for _, x := range bad {
		opens := trial.Immediates[x.E.Op] == 'b'
		layer.Judges(t, api.Code{Body: append([]api.Instr{x.E}, ends[opens]...)}, x.Why)
		layer.Judges(t, api.Code{Body: slices.Concat(trial.Plains("\x01\x02"), []api.Instr{x.E}, ends[opens], trial.Plains("\x0b")), Locals: groups(3)}, x.Why)
		layer.Judges(t, api.Code{Body: append([]api.Instr{x.E}, ends[!opens]...)}, 30)
		layer.Judges(t, api.Code{Body: append([]api.Instr{x.E}, ends[opens]...), Locals: groups(10001)}, 29)
		layer.Judges(t, api.Code{Body: append([]api.Instr{x.E}, ends[opens]...), Locals: []api.Local{group(1001, 0x7f)}}, 23)
		layer.Judges(t, api.Code{Body: append([]api.Instr{x.E}, ends[opens]...), Locals: []api.Local{group(1, 0x7f), group(0, 0x7c)}}, 8)
		for _, y := range lateErrors() {
			layer.Judges(t, api.Code{Body: slices.Concat([]api.Instr{x.E, y.E}, ends[opens])}, x.Why)
		}
	}
	layer.Judges(t, api.Code{Body: []api.Instr{{Op: 0x0b, A: 1}}}, 1)
	layer.Judges(t, api.Code{Body: []api.Instr{{Op: 0x04, A: 0x40}, {Op: 0x05, B: 1}, {Op: 0x0b}, {Op: 0x0b}}}, 1)
	layer.Judges(t, api.Code{Body: append(trial.Plains(strings.Repeat("\x01", 19999)), api.Instr{Op: 0x0b, L: []uint32{0}})}, 1)
}

// TestEveryInstruction has all opcodes, with as little behind them as may be and with more.
func TestEveryInstruction(t *testing.T) {
	for op := range 256 {
		i := trial.Plain(byte(op))
		for _, ends := range []string{"\x0b", "\x0b\x0b", ""} {
			for _, x := range []api.Instr{i, {Op: i.Op, A: 1}, {Op: i.Op, A: i.A, B: 1}, {Op: i.Op, A: i.A, L: []uint32{0}}} {
				c := api.Code{Body: append([]api.Instr{x}, trial.Plains(ends)...)}
				layer.AgreesOn(t, c)
				one.Agrees(t, trial.CodeBytes(c))
			}
		}
	}
}

func TestGet(t *testing.T) { layer.TestGet(t) }

func TestGetInTurn(t *testing.T) { layer.TestGetInTurn(t) }

func TestBroken(t *testing.T) { layer.TestBroken(t) }

// TestCutOff cuts bodies off at every place: what is missing is missing of the bytes whose number is told, which begin behind it.
func TestCutOff(t *testing.T) {
	layer.TestCutOff(t, "\x02\x00\x0b", []int{0, 1})
	layer.TestCutOff(t, "\x05\x01\x03\x7f\x01\x0b", []int{0, 1})
	layer.TestCutOff(t, "\x82\x80\x80\x80\x00\x00\x0b", []int{0, 5})
	layer.TestCutOff(t, "\x80\x01\x00"+nops(127), []int{0, 2})
	// Whatever stands there.
	for n := range 5 {
		one.Refuses(t, "\x05\x06\x06\x06\x06"[:1+n], 2, 1)
		one.Refuses(t, "\x05\xff\xff\xff\xff"[:1+n], 2, 1)
		one.Refuses(t, "\x85\x00\x91\x4e\x05\x92"[:2+n], 2, 2)
	}
}

// TestSizesThatAreWrong tells of fewer or of more bytes than the body has: an error is told by its place in all of the bytes.
func TestSizesThatAreWrong(t *testing.T) {
	const good = "\x02\x83\x00\x7f\x05\x7e\x04\x40\x41\xc0\x00\x1a\x05\x0b\x0b"
	places := []int{0, 1, 1, 3, 4, 5, 6, 7, 8, 9, 9, 11, 12, 13, 14}
	for n, at := range places {
		for _, more := range []string{"", good[n:], "\x0b\x0b\x0b"} {
			one.Refuses(t, trial.Uint(n)+good[:n]+more, 2, 1+at)
			all.Refuses(t, "\x02\x02\x00\x0b"+trial.Uint(n)+good[:n]+more, 2, 5+at)
		}
	}
	want := trial.NewModel("\x0f" + good).Code()
	one.Takes(t, "\x0f"+good, want, 16)
	one.Takes(t, "\x0f"+good+"\x0b", want, 16)
	for more := 1; more < 200; more++ {
		b := trial.Uint(15+more) + good
		one.Refuses(t, b+strings.Repeat("\x0b", more), 14, len(b))
		one.Refuses(t, b+strings.Repeat("\x06", more+1), 14, len(b))
		one.Refuses(t, b+strings.Repeat("\x0b", more-1), 2, len(b)-15)
	}
	// One that takes in the next one, and one that leaves it a part of itself.
	all.Refuses(t, "\x02\x05\x00\x0b\x02\x00\x0b", 14, 4)
	all.Refuses(t, "\x02\x01\x00\x0b\x02\x00\x0b", 2, 3)
	all.Takes(t, "\x02\x02\x00\x0b\x02\x00\x0b", []api.Code{code("\x0b"), code("\x0b")}, 7)
}

// TestNumberOfGroupsThatIsWrong tells of fewer or of more groups than there are: what follows is taken for something else.
func TestNumberOfGroupsThatIsWrong(t *testing.T) {
	one.Refuses(t, "\x04\x02\x03\x7f\x0b", 2, 5)
	one.Refuses(t, "\x05\x02\x03\x7f\x01\x0b", 7, 5)
	one.Takes(t, "\x06\x00\x03\x7f\x01\x0b\x0b", api.Code{Body: []api.Instr{{Op: 0x03, A: 0x7f}, {Op: 0x01}, {Op: 0x0b}, {Op: 0x0b}}}, 7)
	one.Refuses(t, "\x05\x00\x03\x41\x01\x0b", 7, 3)
	one.Refuses(t, "\x06\x90\x4e\x03\x7f\x01\x0b", 7, 6)
	one.Refuses(t, "\x05\x90\x4e\x03\x7f\x01", 2, 6)
	one.Refuses(t, "\x03\x91\x4e\x0b", 29, 1)
	one.Takes(t, "\x07\x81\x80\x00\x03\x7f\x01\x0b", code("\x01\x0b", group(3, 0x7f)), 8)
}

// TestFirstErrorOfGet has several errors in one body: what comes first counts, but all groups come ahead of how many locals there are.
func TestFirstErrorOfGet(t *testing.T) {
	one.Refuses(t, "\xff\xff\xff\xff\x1f\x91\x4e", 3, 0)
	one.Refuses(t, "\x05\x91\x4e\x06", 2, 1)
	one.Refuses(t, "\x04\x91\x4e\x06\x06", 29, 1)
	one.Refuses(t, "\x06\x01\xe9\x07\x7d\x06\x06", 8, 4)
	one.Refuses(t, "\x06\x01\xe9\x07\x40\x06\x06", 7, 4)
	one.Refuses(t, "\x08\x02\xe9\x07\x7f\x01\x7d\x06\x06", 8, 6)
	one.Refuses(t, "\x08\x02\xe9\x07\x7f\x01\x7f\x06\x06", 23, 1)
	one.Refuses(t, "\x07\x02\xe9\x07\x7f\x01\x7f\x05", 23, 1)
	one.Refuses(t, "\x06\x02\xe9\x07\x7f\x01\x7f", 23, 1)
	one.Refuses(t, "\x05\x02\xe9\x07\x7f\x01", 2, 6)
	one.Refuses(t, "\x88\x80\x00\x02\xe9\x07\x7f\x01\x7f\x0b\x0b", 23, 3)
	one.Refuses(t, "\x07\x02\xe8\x07\x7f\x00\x7f\x05", 30, 7)
	one.Refuses(t, "\x06\x02\xe8\x07\x7f\x00\x7f", 2, 7)
	one.Refuses(t, "\x04\x00\x0b\x92\x06", 14, 3)
	one.Refuses(t, "\x04\x00\x92\x0b\x0b", 8, 2)
	one.Refuses(t, "\x03\x00\x01\x01\x0b", 2, 4)
}

// TestEveryByteChanged changes the bytes of bodies, one at a time, to every value.
func TestEveryByteChanged(t *testing.T) {
	for _, good := range []string{
		"\x02\x00\x0b",
		"\x05\x01\x03\x7f\x01\x0b",
		"\x0f\x02\x83\x00\x7f\x05\x7e\x04\x40\x41\xc0\x00\x1a\x05\x0b\x0b",
		"\x0e\x00\x02\x7f\x0e\x02\x00\x01\x80\x01\x11\x05\x00\x0b\x0b",
		"\x87\x00\x01\xe8\x07\x7e\x42\x7f\x0b",
	} {
		layer.TestBytes(t, good)
	}
}

// TestAllShortBodies tries the strings of the bytes that mean something, with and without the number that is theirs.
func TestAllShortBodies(t *testing.T) {
	layer.TestWords(t, "\x00\x01\x02\x03\x0b\x7f\x80", 4, "\x04\x01")
	for n := range 7 {
		trial.Words([]byte("\x00\x01\x02\x05\x0b\x7f"), n, func(w []byte) { one.Agrees(t, trial.Sized(string(w))) })
	}
	trial.Words([]byte("\x04\x05\x0b\x40"), 7, func(w []byte) { one.Agrees(t, trial.Sized("\x00"+string(w))) })
}

func TestGetAll(t *testing.T) { layer.TestGetAll(t) }

func TestGetAllOfAnotherNumber(t *testing.T) { layer.TestGetAllOfAnotherNumber(t) }

// many are bodies that differ from each other.
func many(n int) []api.Code {
	list := make([]api.Code, n)
	for at := range list {
		list[at] = api.Code{Body: []api.Instr{{Op: 0x41, A: uint64(at)}, {Op: 0x1a}, {Op: 0x0b}}}
		if at%3 > 0 {
			list[at].Locals = []api.Local{group(uint32(at%1001), "\x7f\x7e"[at%2])}
		}
	}
	return list
}

// TestMostBodies has 10000 of them and one more.
func TestMostBodies(t *testing.T) { layer.TestMost(t, many(10001)) }

func TestPutAll(t *testing.T) { layer.TestPutAll(t) }

func TestPutAllOfWrongOnes(t *testing.T) { layer.TestPutAllOfWrongOnes(t) }

// P14.3

// anyCode is one that may be, by chance: groups, and instructions of all kinds, with blocks in each other.
func anyCode(next func(n int) int) api.Code {
	var c api.Code
	for range next(4) {
		c.Locals = append(c.Locals, group(uint32(next(300)), "\x7f\x7e"[next(2)]))
	}
	list, _ := kinds()
	var open []bool // is it an if that may have an else?
	for range next(12) {
		i := list[next(len(list))]
		switch k := len(open) - 1; {
		case i.Op == 0x0b && k < 0:
			continue
		case i.Op == 0x0b && open[k] && next(2) == 0:
			i.Op = 0x05
			open[k] = false
		case i.Op == 0x0b:
			open = open[:k]
		case i.Op == 0x02:
			i.Op = byte(2 + next(3))
			open = append(open, i.Op == 4)
		}
		c.Body = append(c.Body, i)
	}
	c.Body = append(c.Body, trial.Plains(strings.Repeat("\x0b", len(open)+1))...)
	return c
}

func TestGetInvertsPut(t *testing.T) {
	layer.TestInverse(t)
	layer.ComeBack(t, many(10000))
	layer.ComeBack(t, []api.Code{code(nops(20000), groups(10000)...), code("\x0b"), code(nops(16383), group(1000, 0x7e))})
}

// P1

func TestManyBytes(t *testing.T) { layer.TestManyBytes(t) }

// TestAnything writes what comes by chance.
func TestAnything(t *testing.T) {
	next := trial.Chance(7)
	bad := wrong()
	for range 6000 {
		list := make([]api.Code, next(6))
		for at := range list {
			c := anyCode(next)
			switch next(8) {
			case 0:
				c.Body[next(len(c.Body))].Op = byte(next(256))
			case 1:
				c.Body = c.Body[:next(len(c.Body))]
			case 2:
				c.Locals = append(c.Locals, group(uint32(next(1<<20)), byte(next(256))))
			case 3:
				c = bad[next(len(bad))].E
			}
			list[at] = c
			layer.AgreesOn(t, c)
			n, e := trial.CountLocals(c.Locals)
			checkCount(t, c.Locals, n, e)
			types, e := modelTypes(api.FuncType{Params: "\x7e"}, c.Locals)
			checkTypes(t, "\x7e", c.Locals, types, e)
		}
		layer.AgreesOnAll(t, list)
	}
}

// P2

// withRoom is a body whose groups, instructions and labels have room behind them, and all that this is.
func withRoom() (api.Code, []api.Local, []api.Instr, []uint32) {
	room := []api.Local{group(1, 0x7f), group(2, 0x7e), group(3, 0x7f), group(2000, 0x40)}
	labels := []uint32{1, 2, 3, 4}
	list := append([]api.Instr{{Op: 0x0e, A: 5, L: labels[:2]}}, trial.Plains("\x02\x0b\x0b\x05\x92\x0b")...)
	return api.Code{Locals: room[:2], Body: list[:4]}, room, list, labels
}

// TestArguments looks at bytes, lists, groups, instructions and labels, and at what is behind them that there is room for.
func TestArguments(t *testing.T) {
	layer.TestArguments(t)
	c, room, list, labels := withRoom()
	_, wantRoom, wantList, wantLabels := withRoom()
	params := api.FuncType{Params: "\x7f"}
	for n := range len(room) + 1 {
		bodies.Count(room[:n])
		bodies.Types(params, room[:n])
		for k := range len(list) + 1 {
			x := api.Code{Locals: room[:n], Body: list[:k]}
			bodies.Right(x)
			bodies.Put(x)
			bodies.PutAll([]api.Code{c, x, c})
		}
	}
	if !slices.Equal(room, wantRoom) || !trial.SameBody(list, wantList) || !slices.Equal(labels, wantLabels) {
		t.Errorf("the groups are %v, the instructions %x, the labels %d", room, list, labels)
	}
	layer.Writes(t, c, "\x0e\x02\x01\x7f\x02\x7e\x0e\x02\x01\x02\x05\x02\x40\x0b\x0b")
}

// TestKept spoils what was handed in: the results stay, and the next ones are those of what it is then.
func TestKept(t *testing.T) {
	layer.TestKept(t)
	c, room, list, labels := withRoom()
	first, _ := bodies.Put(c)
	second, _ := bodies.PutAll([]api.Code{c})
	types, _ := bodies.Types(api.FuncType{Params: "\x7e"}, room[:2])
	trial.Spoil(labels, 9)
	trial.Spoil(room, group(1, 0x7e))
	list[1] = api.Instr{Op: 0x03, A: 0x7f}
	const want = "\x0e\x02\x01\x7f\x02\x7e\x0e\x02\x01\x02\x05\x02\x40\x0b\x0b"
	if string(first) != want || string(second) != "\x01"+want || types != "\x7e\x7f\x7e\x7e" {
		t.Errorf("Put: % x, PutAll: % x, Types: % x", first, second, types)
	}
	layer.Writes(t, c, "\x0e\x02\x01\x7e\x01\x7e\x0e\x02\x09\x09\x05\x03\x7f\x0b\x0b")
	checkTypes(t, "\x7e", room[:2], "\x7e\x7e\x7e", 0)
}

func TestNew(t *testing.T) { layer.TestNew(t) }

// TestNewParts spoils the groups, the instructions and the labels of one body that was read, with the room behind them: those of no other one change.
func TestNewParts(t *testing.T) {
	const b = "\x03" +
		"\x0b\x02\x01\x7f\x02\x7e\x0e\x02\x01\x02\x05\x0b" +
		"\x0b\x02\x01\x7f\x02\x7e\x0e\x02\x01\x02\x05\x0b" +
		"\x09\x01\x03\x7f\x0e\x02\x04\x05\x06\x0b"
	read := func() []api.Code {
		list, stop := abort.Value(func() []api.Code { return bodies.GetAll(scan.Over([]byte(b))) })
		if stop != (abort.Stop{}) || len(list) != 3 {
			t.Fatalf("GetAll: %d, %v", len(list), stop)
		}
		return list
	}
	spoil := func(c api.Code) {
		for _, i := range c.Body {
			trial.Spoil(i.L, 99)
		}
		trial.Spoil(c.Body, api.Instr{Op: 0x77})
		trial.Spoil(c.Locals, group(99, 0x99))
	}
	br := func(a uint64, l ...uint32) []api.Instr { return []api.Instr{{Op: 0x0e, A: a, L: l}, {Op: 0x0b}} }
	want := []api.Code{
		{Locals: []api.Local{group(1, 0x7f), group(2, 0x7e)}, Body: br(5, 1, 2)},
		{Locals: []api.Local{group(1, 0x7f), group(2, 0x7e)}, Body: br(5, 1, 2)},
		{Locals: []api.Local{group(3, 0x7f)}, Body: br(6, 4, 5)},
	}
	other := read()
	for at := range want {
		list := read()
		spoil(list[at])
		list[at] = want[at]
		if !slices.EqualFunc(list, want, trial.SameCode) || !slices.EqualFunc(other, want, trial.SameCode) {
			t.Errorf("%d: %+v, and those read ahead %+v", at, list, other)
		}
	}
	s := scan.Over([]byte(b[1:]))
	first := bodies.Get(s)
	second := bodies.Get(s)
	spoil(first)
	if !trial.SameCode(second, want[1]) || !trial.SameCode(bodies.Get(s), want[2]) {
		t.Errorf("Get: %+v", second)
	}
}

// TestCalls has calls with errors in between, also of Count and of Types.
func TestCalls(t *testing.T) {
	layer.TestCalls(t)
	list := []api.Local{group(600, 0x7f), group(400, 0x7e)}
	types := strings.Repeat("\x7f", 600) + strings.Repeat("\x7e", 400)
	for _, bad := range [][]api.Local{{group(1001, 0x7f)}, {group(1, 0x7f), group(1000, 0x7f)}, groups(10001)} {
		bodies.Count(bad)
		bodies.Types(api.FuncType{Params: "\x7e"}, bad)
		checkCount(t, list, 1000, 0)
		checkTypes(t, "\x7f", list, "\x7f"+types, 0)
		checkCount(t, list[:1], 600, 0)
		checkTypes(t, "", list[1:], types[600:], 0)
	}
}
