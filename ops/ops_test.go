package ops_test

import (
	"strings"
	"testing"

	"creel/api"
	"creel/ops"
)

// The lists and the models are written from the chapter with numbers of their own, and share nothing with the package.

// Lists of operands.
const (
	i  = "\x7f"
	l  = "\x7e"
	ii = "\x7f\x7f"
	il = "\x7f\x7e"
	ll = "\x7e\x7e"
)

// Kinds of immediates, by their numbers.
const (
	none     = 0
	block    = 1
	label    = 2
	labels   = 3
	function = 4
	indirect = 5
	local    = 6
	global   = 7
	mem      = 8
	nought   = 9
	const32  = 10
	const64  = 11
)

// instruction is a row of the list.
type instruction struct {
	op     int
	name   string
	imm    int
	params string
	result string
	free   bool
}

// instructions are all of them.
var instructions = []instruction{
	{0x00, "unreachable", none, "", "", true},
	{0x01, "nop", none, "", "", false},
	{0x02, "block", block, "", "", true},
	{0x03, "loop", block, "", "", true},
	{0x04, "if", block, "", "", true},
	{0x05, "else", none, "", "", true},
	{0x0b, "end", none, "", "", true},
	{0x0c, "br", label, "", "", true},
	{0x0d, "br_if", label, "", "", true},
	{0x0e, "br_table", labels, "", "", true},
	{0x0f, "return", none, "", "", true},
	{0x10, "call", function, "", "", true},
	{0x11, "call_indirect", indirect, "", "", true},
	{0x1a, "drop", none, "", "", true},
	{0x1b, "select", none, "", "", true},
	{0x20, "local.get", local, "", "", true},
	{0x21, "local.set", local, "", "", true},
	{0x22, "local.tee", local, "", "", true},
	{0x23, "global.get", global, "", "", true},
	{0x24, "global.set", global, "", "", true},

	{0x28, "i32.load", mem, i, i, false},
	{0x29, "i64.load", mem, i, l, false},
	{0x2c, "i32.load8_s", mem, i, i, false},
	{0x2d, "i32.load8_u", mem, i, i, false},
	{0x2e, "i32.load16_s", mem, i, i, false},
	{0x2f, "i32.load16_u", mem, i, i, false},
	{0x30, "i64.load8_s", mem, i, l, false},
	{0x31, "i64.load8_u", mem, i, l, false},
	{0x32, "i64.load16_s", mem, i, l, false},
	{0x33, "i64.load16_u", mem, i, l, false},
	{0x34, "i64.load32_s", mem, i, l, false},
	{0x35, "i64.load32_u", mem, i, l, false},
	{0x36, "i32.store", mem, ii, "", false},
	{0x37, "i64.store", mem, il, "", false},
	{0x3a, "i32.store8", mem, ii, "", false},
	{0x3b, "i32.store16", mem, ii, "", false},
	{0x3c, "i64.store8", mem, il, "", false},
	{0x3d, "i64.store16", mem, il, "", false},
	{0x3e, "i64.store32", mem, il, "", false},
	{0x3f, "memory.size", nought, "", i, false},
	{0x40, "memory.grow", nought, i, i, false},
	{0x41, "i32.const", const32, "", i, false},
	{0x42, "i64.const", const64, "", l, false},

	{0x45, "i32.eqz", none, i, i, false},
	{0x46, "i32.eq", none, ii, i, false},
	{0x47, "i32.ne", none, ii, i, false},
	{0x48, "i32.lt_s", none, ii, i, false},
	{0x49, "i32.lt_u", none, ii, i, false},
	{0x4a, "i32.gt_s", none, ii, i, false},
	{0x4b, "i32.gt_u", none, ii, i, false},
	{0x4c, "i32.le_s", none, ii, i, false},
	{0x4d, "i32.le_u", none, ii, i, false},
	{0x4e, "i32.ge_s", none, ii, i, false},
	{0x4f, "i32.ge_u", none, ii, i, false},
	{0x50, "i64.eqz", none, l, i, false},
	{0x51, "i64.eq", none, ll, i, false},
	{0x52, "i64.ne", none, ll, i, false},
	{0x53, "i64.lt_s", none, ll, i, false},
	{0x54, "i64.lt_u", none, ll, i, false},
	{0x55, "i64.gt_s", none, ll, i, false},
	{0x56, "i64.gt_u", none, ll, i, false},
	{0x57, "i64.le_s", none, ll, i, false},
	{0x58, "i64.le_u", none, ll, i, false},
	{0x59, "i64.ge_s", none, ll, i, false},
	{0x5a, "i64.ge_u", none, ll, i, false},

	{0x67, "i32.clz", none, i, i, false},
	{0x68, "i32.ctz", none, i, i, false},
	{0x69, "i32.popcnt", none, i, i, false},
	{0x6a, "i32.add", none, ii, i, false},
	{0x6b, "i32.sub", none, ii, i, false},
	{0x6c, "i32.mul", none, ii, i, false},
	{0x6d, "i32.div_s", none, ii, i, false},
	{0x6e, "i32.div_u", none, ii, i, false},
	{0x6f, "i32.rem_s", none, ii, i, false},
	{0x70, "i32.rem_u", none, ii, i, false},
	{0x71, "i32.and", none, ii, i, false},
	{0x72, "i32.or", none, ii, i, false},
	{0x73, "i32.xor", none, ii, i, false},
	{0x74, "i32.shl", none, ii, i, false},
	{0x75, "i32.shr_s", none, ii, i, false},
	{0x76, "i32.shr_u", none, ii, i, false},
	{0x77, "i32.rotl", none, ii, i, false},
	{0x78, "i32.rotr", none, ii, i, false},
	{0x79, "i64.clz", none, l, l, false},
	{0x7a, "i64.ctz", none, l, l, false},
	{0x7b, "i64.popcnt", none, l, l, false},
	{0x7c, "i64.add", none, ll, l, false},
	{0x7d, "i64.sub", none, ll, l, false},
	{0x7e, "i64.mul", none, ll, l, false},
	{0x7f, "i64.div_s", none, ll, l, false},
	{0x80, "i64.div_u", none, ll, l, false},
	{0x81, "i64.rem_s", none, ll, l, false},
	{0x82, "i64.rem_u", none, ll, l, false},
	{0x83, "i64.and", none, ll, l, false},
	{0x84, "i64.or", none, ll, l, false},
	{0x85, "i64.xor", none, ll, l, false},
	{0x86, "i64.shl", none, ll, l, false},
	{0x87, "i64.shr_s", none, ll, l, false},
	{0x88, "i64.shr_u", none, ll, l, false},
	{0x89, "i64.rotl", none, ll, l, false},
	{0x8a, "i64.rotr", none, ll, l, false},
	{0xa7, "i32.wrap_i64", none, l, i, false},
	{0xac, "i64.extend_i32_s", none, i, l, false},
	{0xad, "i64.extend_i32_u", none, i, l, false},
}

// floats are the floating-point opcodes, each one by itself.
const floats = "\x2a\x2b\x38\x39\x43\x44" +
	"\x5b\x5c\x5d\x5e\x5f\x60\x61\x62\x63\x64\x65\x66" +
	"\x8b\x8c\x8d\x8e\x8f\x90\x91\x92\x93\x94\x95\x96\x97\x98" +
	"\x99\x9a\x9b\x9c\x9d\x9e\x9f\xa0\xa1\xa2\xa3\xa4\xa5\xa6" +
	"\xa8\xa9\xaa\xab" +
	"\xae\xaf\xb0\xb1\xb2\xb3\xb4\xb5\xb6\xb7\xb8\xb9\xba\xbb\xbc\xbd\xbe\xbf"

// accesses are those of the loads and the stores.
var accesses = map[byte]ops.Access{
	0x28: {Bytes: 4, T: 0x7f},
	0x29: {Bytes: 8, T: 0x7e},
	0x2c: {Bytes: 1, T: 0x7f, Signed: true},
	0x2d: {Bytes: 1, T: 0x7f},
	0x2e: {Bytes: 2, T: 0x7f, Signed: true},
	0x2f: {Bytes: 2, T: 0x7f},
	0x30: {Bytes: 1, T: 0x7e, Signed: true},
	0x31: {Bytes: 1, T: 0x7e},
	0x32: {Bytes: 2, T: 0x7e, Signed: true},
	0x33: {Bytes: 2, T: 0x7e},
	0x34: {Bytes: 4, T: 0x7e, Signed: true},
	0x35: {Bytes: 4, T: 0x7e},
	0x36: {Bytes: 4, T: 0x7f, Writes: true},
	0x37: {Bytes: 8, T: 0x7e, Writes: true},
	0x3a: {Bytes: 1, T: 0x7f, Writes: true},
	0x3b: {Bytes: 2, T: 0x7f, Writes: true},
	0x3c: {Bytes: 1, T: 0x7e, Writes: true},
	0x3d: {Bytes: 2, T: 0x7e, Writes: true},
	0x3e: {Bytes: 4, T: 0x7e, Writes: true},
}

// modelOf is the row of an opcode, and whether it has one.
func modelOf(op int) (instruction, bool) {
	for _, row := range instructions {
		if row.op == op {
			return row, true
		}
	}
	return instruction{}, false
}

// modelInfo is a row as Of tells it; for one without a name, a zero Info.
func modelInfo(row instruction) ops.Info {
	return ops.Info{Name: row.name, Imm: ops.Imm(row.imm), Params: row.params, Result: row.result, Free: row.free}
}

// modelCheck is the error of an opcode.
func modelCheck(op int) api.Errno {
	if _, ok := modelOf(op); ok {
		return 0
	}
	if strings.IndexByte(floats, byte(op)) >= 0 {
		return 8
	}
	return 9
}

// modelAccess reads an access out of a name, as P6.2 says it.
func modelAccess(name string) (ops.Access, bool) {
	t, word, _ := strings.Cut(name, ".")
	if !strings.HasPrefix(word, "load") && !strings.HasPrefix(word, "store") {
		return ops.Access{}, false
	}
	a := ops.Access{Bytes: 4, T: 0x7f, Writes: word[0] == 's', Signed: strings.HasSuffix(word, "_s")}
	if t == "i64" {
		a.Bytes, a.T = 8, 0x7e
	}
	for n, bits := range map[int]string{1: "8", 2: "16", 4: "32"} {
		if strings.Contains(word, bits) {
			a.Bytes = n
		}
	}
	return a, true
}

// P6.1.

func TestKinds(t *testing.T) {
	kinds := []ops.Imm{ops.None, ops.Block, ops.Label, ops.Labels, ops.Func, ops.Indirect, ops.Local, ops.Global, ops.Mem, ops.Nought, ops.Const32, ops.Const64}
	for n, k := range kinds {
		if int(k) != n {
			t.Errorf("kind %d has the number %d", n, k)
		}
	}
}

// TestList asks whether the list of this test is whole: the opcodes that WebAssembly 1.0 has are those of the list and the floating-point ones.
func TestList(t *testing.T) {
	if n := len(instructions); n != 104 {
		t.Errorf("%d instructions", n)
	}
	if n := len(floats); n != 68 {
		t.Errorf("%d floating-point opcodes", n)
	}
	for at, row := range instructions {
		if at > 0 && row.op <= instructions[at-1].op {
			t.Errorf("%x stands behind %x", row.op, instructions[at-1].op)
		}
	}
}

func TestOf(t *testing.T) {
	for op := range 256 {
		row, _ := modelOf(op)
		if got, want := ops.Of(byte(op)), modelInfo(row); got != want {
			t.Errorf("Of(%x): %+v, not %+v", op, got, want)
		}
	}
}

func TestCheck(t *testing.T) {
	for op := range 256 {
		if got, want := ops.Check(byte(op)), modelCheck(op); got != want {
			t.Errorf("Check(%x): %d, not %d", op, got, want)
		}
	}
}

// TestEdges names the first and the last opcode of each group, and what lies beside them.
func TestEdges(t *testing.T) {
	list := []struct {
		op   byte
		name string
		e    api.Errno
	}{
		{0x00, "unreachable", 0}, {0x01, "nop", 0}, {0x02, "block", 0}, {0x04, "if", 0},
		{0x05, "else", 0}, {0x06, "", 9}, {0x0a, "", 9}, {0x0b, "end", 0},
		{0x11, "call_indirect", 0}, {0x12, "", 9}, {0x19, "", 9}, {0x1a, "drop", 0},
		{0x1b, "select", 0}, {0x1c, "", 9}, {0x1f, "", 9}, {0x20, "local.get", 0},
		{0x24, "global.set", 0}, {0x25, "", 9}, {0x27, "", 9}, {0x28, "i32.load", 0},
		{0x29, "i64.load", 0}, {0x2a, "", 8}, {0x2b, "", 8}, {0x2c, "i32.load8_s", 0},
		{0x35, "i64.load32_u", 0}, {0x36, "i32.store", 0},
		{0x37, "i64.store", 0}, {0x38, "", 8}, {0x39, "", 8}, {0x3a, "i32.store8", 0},
		{0x3e, "i64.store32", 0}, {0x3f, "memory.size", 0}, {0x40, "memory.grow", 0}, {0x41, "i32.const", 0},
		{0x42, "i64.const", 0}, {0x43, "", 8}, {0x44, "", 8}, {0x45, "i32.eqz", 0},
		{0x46, "i32.eq", 0}, {0x4f, "i32.ge_u", 0}, {0x50, "i64.eqz", 0}, {0x51, "i64.eq", 0},
		{0x5a, "i64.ge_u", 0}, {0x5b, "", 8}, {0x66, "", 8}, {0x67, "i32.clz", 0},
		{0x69, "i32.popcnt", 0}, {0x6a, "i32.add", 0}, {0x78, "i32.rotr", 0}, {0x79, "i64.clz", 0},
		{0x7b, "i64.popcnt", 0}, {0x7c, "i64.add", 0}, {0x8a, "i64.rotr", 0}, {0x8b, "", 8},
		{0xa6, "", 8}, {0xa7, "i32.wrap_i64", 0}, {0xa8, "", 8}, {0xab, "", 8},
		{0xac, "i64.extend_i32_s", 0}, {0xad, "i64.extend_i32_u", 0}, {0xae, "", 8}, {0xbf, "", 8},
		{0xc0, "", 9}, {0xc4, "", 9}, {0xfc, "", 9}, {0xfd, "", 9}, {0xfe, "", 9}, {0xff, "", 9},
	}
	for _, c := range list {
		if got := ops.Of(c.op).Name; got != c.name {
			t.Errorf("Of(%x): %q, not %q", c.op, got, c.name)
		}
		if got := ops.Check(c.op); got != c.e {
			t.Errorf("Check(%x): %d, not %d", c.op, got, c.e)
		}
	}
}

func TestNop(t *testing.T) {
	if got := ops.Of(0x01); got != (ops.Info{Name: "nop"}) {
		t.Errorf("Of(01): %+v", got)
	}
}

func TestExample(t *testing.T) {
	if got := ops.Of(0x6a); got != (ops.Info{Name: "i32.add", Params: "\x7f\x7f", Result: "\x7f"}) {
		t.Errorf("Of(6a): %+v", got)
	}
}

func TestFind(t *testing.T) {
	for _, row := range instructions {
		if op, ok := ops.Find(row.name); int(op) != row.op || !ok {
			t.Errorf("Find(%q): %x %t, not %x", row.name, op, ok, row.op)
		}
	}
}

func noName(t *testing.T, name string) {
	t.Helper()
	if op, ok := ops.Find(name); op != 0 || ok {
		t.Errorf("Find(%.40q): %x %t", name, op, ok)
	}
}

func TestFindOfOtherNames(t *testing.T) {
	list := []string{
		"", " ", ".", "_", "?", "i32", "i32.", "i64", "i64.", ".add", "add", "memory", "memory.", "local", "global", "i", "br_",
		"Nop", "NOP", "I32.add", "i32.ADD", "i32..add", "i32 add", "i32-add", "i32_add", "i32.add.i32", "i16.add", "i128.add", "i33.add",
		"f32.load", "f64.load", "f32.store", "f64.store", "f32.const", "f64.const", "f32.eq", "f64.ge", "f32.add", "f64.copysign", "f32.abs", "f64.sqrt",
		"i32.trunc_f32_s", "i32.trunc_f64_u", "i64.trunc_f32_u", "f32.convert_i32_s", "f64.promote_f32", "f32.demote_f64",
		"i32.reinterpret_f32", "i64.reinterpret_f64", "f32.reinterpret_i32", "f64.reinterpret_i64",
		"i32.extend8_s", "i64.extend32_s", "i32.extend_i64_s", "i64.wrap_i32", "i64.extend_i32", "i32.wrap",
		"i32.load32_s", "i32.load32_u", "i32.load64_s", "i64.load64_s", "i32.store32", "i64.store64", "i32.load8", "i64.load16", "i32.store8_s",
		"i32.lt", "i32.div", "i32.rem", "i32.shr", "i32.rot", "i32.not", "i32.neg", "i32.nez", "memory.copy", "memory.fill", "memory.const",
		"get_local", "local.grow", "global.tee", "table.get", "ref.null", "return_call", "select_t", "try", "throw",
		"\xff", "\x80", "\xe2\x82", "i32.add\xff", "\xffi32.add", "i32\xff.add", "\xc0\x80", "nop\x80", "\xed\xa0\x80",
		"nop\x00", "\x00nop", "\x00", "i32.add\n", "\ti32.add", "\ufeffnop", "n\u00f6p", "\u217032.add",
		strings.Repeat("n", 200), strings.Repeat("i32.add", 10), strings.Repeat(" ", 1<<20), strings.Repeat("\xff", 1<<20), "nop" + strings.Repeat("\x00", 1<<20),
	}
	for _, name := range list {
		noName(t, name)
	}
}

// TestFindOfNamesNearby changes each name in each place; what comes of it is another instruction's name only if the list has that.
func TestFindOfNamesNearby(t *testing.T) {
	known := map[string]bool{}
	for _, row := range instructions {
		known[row.name] = true
	}
	ask := func(name string) {
		t.Helper()
		if !known[name] {
			noName(t, name)
		}
	}
	for _, row := range instructions {
		name := row.name
		noName(t, strings.ToUpper(name))
		noName(t, strings.ToUpper(name[:1])+name[1:])
		noName(t, name+name)
		for _, more := range []string{" ", "\x00", "\n", "\xff", "_", ".", "x", "_s", "_u", "8", "16", "32", "64", "z", "\u00e9"} {
			ask(name + more)
			ask(more + name)
		}
		for at := range name {
			ask(name[:at])   // a part from the first byte on
			ask(name[at+1:]) // and one up to the last
			ask(name[:at] + name[at+1:])
			for _, other := range " .\x00aA_0" {
				ask(name[:at] + string(other) + name[at+1:])
			}
			for bit := range 8 {
				b := []byte(name)
				b[at] ^= 1 << bit
				ask(string(b))
			}
		}
	}
}

// TestFindOfShortNames asks for all names of at most two bytes.
func TestFindOfShortNames(t *testing.T) {
	ask := func(name string) {
		t.Helper()
		switch op, ok := ops.Find(name); {
		case name == "if" && (op != 0x04 || !ok), name == "br" && (op != 0x0c || !ok):
			t.Errorf("Find(%q): %x %t", name, op, ok)
		case name != "if" && name != "br":
			noName(t, name)
		}
	}
	for a := range 256 {
		ask(string([]byte{byte(a)}))
		for b := range 256 {
			ask(string([]byte{byte(a), byte(b)}))
		}
	}
}

func TestOpens(t *testing.T) {
	for op := range 256 {
		if got, want := ops.Opens(byte(op)), op == 2 || op == 3 || op == 4; got != want {
			t.Errorf("Opens(%x): %t", op, got)
		}
	}
}

// P6.2.

func TestAccessOf(t *testing.T) {
	if len(accesses) != 19 {
		t.Fatalf("%d accesses", len(accesses))
	}
	for op := range 256 {
		want, has := accesses[byte(op)]
		if got, ok := ops.AccessOf(byte(op)); got != want || ok != has {
			t.Errorf("AccessOf(%x): %+v %t, not %+v %t", op, got, ok, want, has)
		}
	}
}

// TestAccessOfNames asks the same of the names.
func TestAccessOfNames(t *testing.T) {
	for op := range 256 {
		row, _ := modelOf(op)
		want, has := modelAccess(row.name)
		if got, ok := ops.AccessOf(byte(op)); got != want || ok != has {
			t.Errorf("AccessOf(%x): %+v %t, not %+v %t", op, got, ok, want, has)
		}
	}
}

func TestNoAccess(t *testing.T) {
	list := []byte{
		0x3f, 0x40, // memory.size and memory.grow
		0x2a, 0x2b, 0x38, 0x39, // loads and stores of floats
		0x27, 0x41, 0x42, 0x43, 0x44, 0x24, 0x20, 0x00, 0x01, 0xff,
	}
	for _, op := range list {
		if a, ok := ops.AccessOf(op); a != (ops.Access{}) || ok {
			t.Errorf("AccessOf(%x): %+v %t", op, a, ok)
		}
	}
}

// TestAccessAndOf holds AccessOf against Of: the immediates of what accesses memory are Mem, and its number is what it gives, or takes last.
func TestAccessAndOf(t *testing.T) {
	for op := range 256 {
		info := ops.Of(byte(op))
		a, ok := ops.AccessOf(byte(op))
		if ok != (info.Imm == ops.Mem) {
			t.Errorf("AccessOf(%x): %t, with the immediates %d", op, ok, info.Imm)
		}
		if !ok {
			continue
		}
		params, result := "\x7f", string([]byte{a.T})
		if a.Writes {
			params, result = params+result, ""
		}
		if info.Params != params || info.Result != result {
			t.Errorf("AccessOf(%x): %+v, with %q to %q", op, a, info.Params, info.Result)
		}
	}
}

// P6.3.

func TestNamesDiffer(t *testing.T) {
	of := map[string]int{}
	for op := range 256 {
		name := ops.Of(byte(op)).Name
		if name == "" {
			continue
		}
		if other, ok := of[name]; ok {
			t.Errorf("%x and %x are both %s", other, op, name)
		}
		of[name] = op
	}
	if len(of) != 104 {
		t.Errorf("%d names", len(of))
	}
}

func TestFindAndOfUndoEachOther(t *testing.T) {
	for op := range 256 {
		name := ops.Of(byte(op)).Name
		back, ok := ops.Find(name)
		is := ops.Check(byte(op)) == api.OK
		if ok != is || ok && int(back) != op || !ok && back != 0 {
			t.Errorf("%x: the name %q is of %x, %t", op, name, back, ok)
		}
	}
	for _, row := range instructions {
		op, _ := ops.Find(row.name)
		if got := ops.Of(op).Name; got != row.name {
			t.Errorf("%q is of %x, which is %q", row.name, op, got)
		}
	}
}

// P1 and P2 for this layer: each call above ends, for all opcodes and for names of every kind; arguments are numbers and strings, so that there is nothing in them that could be changed.

// TestOfZeroInfo asks for zeros in all fields of what is no instruction, and in types and immediates of what has none.
func TestOfZeroInfo(t *testing.T) {
	for op := range 256 {
		info := ops.Of(byte(op))
		if ops.Check(byte(op)) != api.OK && info != (ops.Info{}) {
			t.Errorf("Of(%x): %+v", op, info)
		}
		if info.Free && info.Params+info.Result != "" {
			t.Errorf("Of(%x) is free, with %q to %q", op, info.Params, info.Result)
		}
	}
}

// TestCallsDoNotMatter asks the same again after other calls, the failed ones among them.
func TestCallsDoNotMatter(t *testing.T) {
	for op := range 256 {
		o := byte(op)
		info, e, opens := ops.Of(o), ops.Check(o), ops.Opens(o)
		a, ok := ops.AccessOf(o)
		found, is := ops.Find(info.Name)
		for other := range 256 {
			ops.Of(byte(other))
			ops.Check(byte(other))
			ops.AccessOf(byte(other))
			ops.Opens(byte(other))
		}
		ops.Find("")
		ops.Find("f32.add")
		ops.Find("i64.rotr")
		if ops.Of(o) != info || ops.Check(o) != e || ops.Opens(o) != opens {
			t.Errorf("%x is another one", op)
		}
		if a2, ok2 := ops.AccessOf(o); a2 != a || ok2 != ok {
			t.Errorf("AccessOf(%x): %+v %t, then %+v %t", op, a, ok, a2, ok2)
		}
		if found2, is2 := ops.Find(info.Name); found2 != found || is2 != is {
			t.Errorf("Find(%q): %x %t, then %x %t", info.Name, found, is, found2, is2)
		}
	}
}
