package types_test

import (
	"bytes"
	"math"
	"slices"
	"strings"
	"testing"

	"creel/api"
	"creel/types"
)

// The models are written from the chapter with numbers of their own, and share nothing with the package.

// modelValue is the error of a byte as a value type.
func modelValue(b int) api.Errno {
	if b < 0x7c || b > 0x7f {
		return 7
	}
	// Of the four numbers that are left, the lower two are floats.
	if b < 0x7e {
		return 8
	}
	return 0
}

// modelValues is the first error of a list of types.
func modelValues(s string) api.Errno {
	i := slices.IndexFunc([]byte(s), func(b byte) bool { return modelValue(int(b)) != 0 })
	if i < 0 {
		return 0
	}
	return modelValue(int(s[i]))
}

// modelNumber is the shortest varint of a number.
func modelNumber(n int) []byte {
	var b []byte
	for ; n > 127; n /= 128 {
		b = append(b, byte(n%128+128))
	}
	return append(b, byte(n))
}

// modelName is how a type is called.
func modelName(b int) string {
	switch b {
	case 0x7f:
		return "i32"
	case 0x7e:
		return "i64"
	case 0x7d:
		return "f32"
	case 0x7c:
		return "f64"
	case 0x70:
		return "funcref"
	}
	return "?"
}

// modelNames are the names of a list of types, in parentheses.
func modelNames(s string) string {
	var list []string
	for _, b := range []byte(s) {
		list = append(list, modelName(int(b)))
	}
	return "(" + strings.Join(list, ",") + ")"
}

// modelLimits counts what is wrong with limits.
func modelLimits(l api.Limits, most uint32) api.Errno {
	wrong := 0
	if int64(l.Min) > int64(most) {
		wrong++
	}
	if l.Bound && int64(l.Max)-int64(l.Min) < 0 {
		wrong++
	}
	if l.Bound && int64(l.Max) > int64(most) {
		wrong++
	}
	if !l.Bound && l.Max > 0 {
		wrong++
	}
	if wrong > 0 {
		return 26
	}
	return 0
}

// modelFits counts what is missing.
func modelFits(have, want api.Limits) bool {
	missing := 0
	if int64(have.Min)-int64(want.Min) < 0 {
		missing++
	}
	if want.Bound && !have.Bound {
		missing++
	}
	if want.Bound && have.Bound && int64(want.Max)-int64(have.Max) < 0 {
		missing++
	}
	return missing == 0
}

// modelRight tells whether a value is one of i32 or i64, and no greater than its type allows.
func modelRight(v api.Value) bool {
	return v.T == 0x7e || v.T == 0x7f && v.N < 1<<32
}

// modelCut is the number that is left of a value: for i32 the remainder of 2^32.
func modelCut(v api.Value) uint64 {
	if v.T == 0x7f {
		return v.N % (1 << 32)
	}
	return v.N
}

// numbers are values about the ends of 32 and of 64 bits.
func numbers() []uint64 {
	return []uint64{
		0, 1, 2, 127, 128, 1<<31 - 1, 1 << 31, 1<<32 - 2, 1<<32 - 1, 1 << 32, 1<<32 + 1, 1<<33 - 1, 0xdeadbeef_00000007,
		1 << 62, 1<<63 - 1, 1 << 63, 1<<63 | 5, math.MaxUint64 - 1<<32, math.MaxUint64 - 1, math.MaxUint64,
	}
}

// edges are numbers about the ends of the limits, and of the lengths of their encodings.
func edges() []uint32 {
	return []uint32{0, 1, 2, 3, 127, 128, 65535, 65536, 1<<31 - 1, 1 << 31, math.MaxUint32 - 1, math.MaxUint32}
}

// allLimits are limits of all the edges, also such as may not be.
func allLimits() []api.Limits {
	var list []api.Limits
	for _, low := range edges() {
		for _, high := range edges() {
			list = append(list, api.Limits{Min: low, Max: high}, api.Limits{Min: low, Max: high, Bound: true})
		}
	}
	return list
}

// typeLists are lists of types, right ones and others.
func typeLists() []string {
	list := []string{
		"", "\x7f", "\x7e", "\x7d", "\x7c", "\x70", "\x60", "\x40", "\x00", "\xff",
		"\x7f\x7e", "\x7e\x7f", "\x7d\x00", "\x00\x7d", "\x7f\x7d", "\x7f\x40", "\x7e\x7c\x70", "\x7e\x70\x7c", "\xe2\x82\xac",
	}
	for _, n := range []int{126, 127, 128, 129, 999, 1000, 1001, 16383, 16384} {
		full := strings.Repeat("\x7e", n)
		list = append(list, full, full[1:]+"\x7c", "\x03"+full[1:])
	}
	return list
}

func limits(low, high uint32) api.Limits { return api.Limits{Min: low, Max: high, Bound: true} }

func atLeast(low uint32) api.Limits { return api.Limits{Min: low} }

// checkFunc checks the error of one function type.
func checkFunc(t *testing.T, params, results string, want api.Errno) {
	t.Helper()
	if got := types.Func(api.FuncType{Params: params, Results: results}); got != want {
		t.Errorf("Func of %s (%d) and %s (%d): %d, want %d", shorten(params), len(params), shorten(results), len(results), got, want)
	}
}

// shorten keeps messages about long lists readable.
func shorten(s string) string {
	return modelNames(s[:min(len(s), 4)])
}

// checkBytes checks one encoding.
func checkBytes(t *testing.T, what string, got, want []byte) {
	t.Helper()
	if !bytes.Equal(got, want) {
		t.Errorf("%s: % x, want % x", what, got, want)
	}
}

// checkFits checks one pair of limits.
func checkFits(t *testing.T, have, want api.Limits, is bool) {
	t.Helper()
	if got := types.Fits(have, want); got != is {
		t.Errorf("Fits(%v, %v): %t, want %t", have, want, got, is)
	}
}

// checkLimits checks the error of limits.
func checkLimits(t *testing.T, l api.Limits, most uint32, want api.Errno) {
	t.Helper()
	if got := types.Limits(l, most); got != want {
		t.Errorf("Limits(%v, %d): %d, want %d", l, most, got, want)
	}
}

// checkTake checks one Take.
func checkTake(t *testing.T, list []api.Value, s string, want bool) {
	t.Helper()
	if got := types.Take(list, s); got != want {
		t.Errorf("Take(%v, % x): %t, want %t", list, s, got, want)
	}
}

// P4.1

func TestValue(t *testing.T) {
	want := [256]api.Errno{}
	for b := range want {
		want[b] = api.ErrType
	}
	want[0x7f], want[0x7e] = api.OK, api.OK
	want[0x7d], want[0x7c] = api.ErrFloat, api.ErrFloat
	for b := range 256 {
		if got := types.Value(byte(b)); got != want[b] || modelValue(b) != want[b] {
			t.Errorf("Value(%x): %d, want %d (and the model says %d)", b, got, want[b], modelValue(b))
		}
		if got := types.Values(string([]byte{byte(b)})); got != want[b] {
			t.Errorf("Values of %x alone: %d, want %d", b, got, want[b])
		}
	}
}

func TestValues(t *testing.T) {
	for _, s := range typeLists() {
		if got, want := types.Values(s), modelValues(s); got != want {
			t.Errorf("Values of %d types: %d, want %d", len(s), got, want)
		}
	}
	if e := types.Values(""); e != api.OK {
		t.Errorf("Values of none: %d", e)
	}
}

// TestValuesFirstError takes every pair of bytes, with something right before, between and behind them.
func TestValuesFirstError(t *testing.T) {
	for x := range 256 {
		for y := range 256 {
			first := modelValue(x)
			if first == api.OK {
				first = modelValue(y)
			}
			pair := string([]byte{byte(x), byte(y)})
			apart := string([]byte{0x7f, 0x7e, byte(x), 0x7e, byte(y), 0x7f})
			if got := types.Values(pair); got != first {
				t.Fatalf("Values(% x): %d, want %d", pair, got, first)
			}
			if got := types.Values(apart); got != first {
				t.Fatalf("Values(% x): %d, want %d", apart, got, first)
			}
		}
	}
}

func TestFuncOfRightTypes(t *testing.T) {
	for _, results := range []string{"", "\x7f", "\x7e"} {
		for _, params := range []string{"", "\x7f", "\x7e", "\x7f\x7e", "\x7e\x7e\x7f", strings.Repeat("\x7f", 999), strings.Repeat("\x7e", 1000)} {
			checkFunc(t, params, results, api.OK)
		}
	}
}

func TestFuncOfTooMany(t *testing.T) {
	most := strings.Repeat("\x7f", 1000)
	checkFunc(t, most, "", api.OK)
	checkFunc(t, most, "\x7e", api.OK)
	checkFunc(t, most+"\x7f", "", api.ErrMany)
	checkFunc(t, most+"\x7f", "\x7e", api.ErrMany)
	checkFunc(t, most+most, "", api.ErrMany)
	checkFunc(t, "", "\x7f\x7f", api.ErrMany)
	checkFunc(t, "\x7f", "\x7e\x7f", api.ErrMany)
	checkFunc(t, "", "\x7f\x7f\x7f", api.ErrMany)
	checkFunc(t, "", most, api.ErrMany)
	checkFunc(t, most, "\x7f\x7f", api.ErrMany)
	checkFunc(t, most+"\x7f", "\x7f\x7f", api.ErrMany)
}

// TestFuncCountsFirst has too many types together with wrong ones: the number is what is told.
func TestFuncCountsFirst(t *testing.T) {
	most := strings.Repeat("\x7f", 1000)
	for _, wrong := range []string{"\x7d", "\x7c", "\x70", "\x00", "\xff"} {
		checkFunc(t, most+wrong, "", api.ErrMany)
		checkFunc(t, wrong+most, "", api.ErrMany)
		checkFunc(t, most+"\x7f", wrong, api.ErrMany)
		checkFunc(t, wrong, "\x7f\x7f", api.ErrMany)
		checkFunc(t, "", wrong+wrong, api.ErrMany)
		checkFunc(t, "\x7f", "\x7f"+wrong, api.ErrMany)
		checkFunc(t, wrong, wrong+"\x7f", api.ErrMany)
		checkFunc(t, most[1:]+wrong, "", modelValues(wrong))
		checkFunc(t, wrong+most[1:], "\x7f", modelValues(wrong))
		checkFunc(t, most, wrong, modelValues(wrong))
	}
}

// TestFuncOfWrongTypes has each byte among the parameters and each among the results: the parameters come first.
func TestFuncOfWrongTypes(t *testing.T) {
	checkFunc(t, "\x7d", "\x40", api.ErrFloat)
	checkFunc(t, "\x40", "\x7d", api.ErrType)
	checkFunc(t, "\x7f\x7d", "", api.ErrFloat)
	checkFunc(t, "\x7f", "\x7c", api.ErrFloat)
	checkFunc(t, "", "\x70", api.ErrType)
	for x := range 256 {
		for y := range 256 {
			param, result := string([]byte{byte(x)}), string([]byte{byte(y)})
			want := modelValues(param + result)
			checkFunc(t, param, result, want)
			checkFunc(t, "\x7e\x7f"+param, result, want)
		}
	}
	for _, params := range typeLists() {
		for _, results := range typeLists() {
			want := modelValues(params + results)
			if len(params) > 1000 || len(results) > 1 {
				want = api.ErrMany
			}
			checkFunc(t, params, results, want)
		}
	}
}

func TestEncodeFunc(t *testing.T) {
	for _, c := range []struct {
		params, results string
		want            []byte
	}{
		{"", "", []byte{0x60, 0, 0}},
		{"\x7f", "", []byte{0x60, 1, 0x7f, 0}},
		{"", "\x7e", []byte{0x60, 0, 1, 0x7e}},
		{"\x7f\x7e", "\x7f", []byte{0x60, 2, 0x7f, 0x7e, 1, 0x7f}},
		{"\x7e\x7f", "\x7f\x7e", []byte{0x60, 2, 0x7e, 0x7f, 2, 0x7f, 0x7e}},
		{"\x7d\x00\xff", "\x40", []byte{0x60, 3, 0x7d, 0, 0xff, 1, 0x40}},
		{"\xe2\x82\xac", "\xc3", []byte{0x60, 3, 0xe2, 0x82, 0xac, 1, 0xc3}},
	} {
		checkBytes(t, "EncodeFunc", types.EncodeFunc(api.FuncType{Params: c.params, Results: c.results}), c.want)
	}
	for _, params := range typeLists() {
		for _, results := range typeLists() {
			want := slices.Concat([]byte{0x60}, modelNumber(len(params)), []byte(params), modelNumber(len(results)), []byte(results))
			if got := types.EncodeFunc(api.FuncType{Params: params, Results: results}); !bytes.Equal(got, want) {
				t.Errorf("EncodeFunc of %d and %d types: %d bytes, want %d", len(params), len(results), len(got), len(want))
			}
		}
	}
}

func TestEncodeFuncCounts(t *testing.T) {
	for _, c := range []struct {
		n    int
		want []byte
	}{{0, []byte{0}}, {1, []byte{1}}, {127, []byte{0x7f}}, {128, []byte{0x80, 1}}, {1000, []byte{0xe8, 7}}, {16384, []byte{0x80, 0x80, 1}}} {
		list := strings.Repeat("\x7f", c.n)
		params := types.EncodeFunc(api.FuncType{Params: list})
		checkBytes(t, "EncodeFunc of parameters", params, slices.Concat([]byte{0x60}, c.want, []byte(list), []byte{0}))
		results := types.EncodeFunc(api.FuncType{Results: list})
		checkBytes(t, "EncodeFunc of results", results, slices.Concat([]byte{0x60, 0}, c.want, []byte(list)))
	}
}

// P4.2

func TestLimits(t *testing.T) {
	for _, c := range []struct {
		l    api.Limits
		most uint32
		want api.Errno
	}{
		{atLeast(0), 0, api.OK}, {atLeast(9), 10, api.OK}, {atLeast(10), 10, api.OK}, {atLeast(11), 10, api.ErrLimits}, {atLeast(1), 0, api.ErrLimits},
		{limits(3, 5), 10, api.OK}, {limits(3, 3), 10, api.OK}, {limits(3, 2), 10, api.ErrLimits}, {limits(3, 0), 10, api.ErrLimits},
		{limits(3, 9), 10, api.OK}, {limits(3, 10), 10, api.OK}, {limits(3, 11), 10, api.ErrLimits},
		{limits(0, 0), 0, api.OK}, {limits(0, 1), 0, api.ErrLimits}, {limits(10, 10), 10, api.OK},
		{limits(11, 12), 10, api.ErrLimits}, {limits(11, 11), 10, api.ErrLimits}, {limits(11, 10), 10, api.ErrLimits}, {limits(11, 0), 10, api.ErrLimits},
		{api.Limits{Min: 3, Max: 5}, 10, api.ErrLimits}, {api.Limits{Max: 1}, 10, api.ErrLimits}, {api.Limits{Min: 3, Max: 3}, 10, api.ErrLimits},
		{api.Limits{Max: math.MaxUint32}, math.MaxUint32, api.ErrLimits}, {api.Limits{Min: 11, Max: 11}, 10, api.ErrLimits},
		{atLeast(65536), 65536, api.OK}, {atLeast(65537), 65536, api.ErrLimits}, {limits(1, 65536), 65536, api.OK}, {limits(1, 65537), 65536, api.ErrLimits},
		{atLeast(math.MaxUint32), math.MaxUint32, api.OK}, {atLeast(math.MaxUint32), math.MaxUint32 - 1, api.ErrLimits},
		{limits(0, math.MaxUint32), math.MaxUint32, api.OK}, {limits(0, math.MaxUint32), math.MaxUint32 - 1, api.ErrLimits},
		{limits(math.MaxUint32, math.MaxUint32), math.MaxUint32, api.OK}, {limits(math.MaxUint32, math.MaxUint32-1), math.MaxUint32, api.ErrLimits},
	} {
		checkLimits(t, c.l, c.most, c.want)
	}
	for _, l := range allLimits() {
		for _, most := range edges() {
			checkLimits(t, l, most, modelLimits(l, most))
		}
	}
}

func TestEncodeLimits(t *testing.T) {
	for _, c := range []struct {
		n    uint32
		want []byte
	}{
		{0, []byte{0}}, {1, []byte{1}}, {127, []byte{0x7f}}, {128, []byte{0x80, 1}}, {16383, []byte{0xff, 0x7f}}, {16384, []byte{0x80, 0x80, 1}},
		{65536, []byte{0x80, 0x80, 4}}, {math.MaxUint32, []byte{0xff, 0xff, 0xff, 0xff, 0x0f}},
	} {
		checkBytes(t, "EncodeLimits, not bound", types.EncodeLimits(atLeast(c.n)), append([]byte{0}, c.want...))
		// What is not bound has no Max, whatever stands there.
		checkBytes(t, "EncodeLimits, not bound, with a Max", types.EncodeLimits(api.Limits{Min: c.n, Max: 7}), append([]byte{0}, c.want...))
		checkBytes(t, "EncodeLimits, Min", types.EncodeLimits(limits(c.n, 7)), slices.Concat([]byte{1}, c.want, []byte{7}))
		checkBytes(t, "EncodeLimits, Max", types.EncodeLimits(limits(7, c.n)), slices.Concat([]byte{1, 7}, c.want))
		checkBytes(t, "EncodeLimits, both", types.EncodeLimits(limits(c.n, c.n)), slices.Concat([]byte{1}, c.want, c.want))
	}
	for _, l := range allLimits() {
		want := append([]byte{0}, modelNumber(int(l.Min))...)
		if l.Bound {
			want = slices.Concat([]byte{1}, modelNumber(int(l.Min)), modelNumber(int(l.Max)))
		}
		checkBytes(t, "EncodeLimits", types.EncodeLimits(l), want)
	}
}

func TestFits(t *testing.T) {
	for _, c := range []struct {
		have, want api.Limits
		is         bool
	}{
		{atLeast(0), atLeast(0), true}, {atLeast(3), atLeast(2), true}, {atLeast(3), atLeast(3), true}, {atLeast(3), atLeast(4), false},
		{limits(3, 5), atLeast(3), true}, {limits(3, 5), atLeast(4), false}, {limits(3, 5), atLeast(0), true},
		{limits(3, 5), limits(2, 6), true}, {limits(3, 5), limits(3, 5), true}, {limits(3, 5), limits(3, 4), false}, {limits(3, 5), limits(4, 5), false},
		{limits(3, 5), limits(2, 5), true}, {limits(3, 5), limits(3, 6), true}, {limits(3, 5), limits(4, 4), false}, {limits(0, 0), limits(0, 0), true},
		{atLeast(3), limits(3, 5), false}, {atLeast(3), limits(0, math.MaxUint32), false}, {atLeast(0), limits(0, 0), false},
		{limits(0, math.MaxUint32), limits(0, math.MaxUint32), true}, {limits(0, math.MaxUint32), limits(0, math.MaxUint32-1), false},
		// What stands in Max of those that are not bound has no say.
		{api.Limits{Min: 3, Max: 9}, api.Limits{Min: 3, Max: 1}, true}, {limits(3, 9), api.Limits{Min: 3, Max: 1}, true}, {api.Limits{Min: 3, Max: 1}, limits(3, 9), false},
	} {
		checkFits(t, c.have, c.want, c.is)
	}
	for _, have := range allLimits() {
		for _, want := range allLimits() {
			checkFits(t, have, want, modelFits(have, want))
		}
	}
}

func TestEncodeGlobal(t *testing.T) {
	checkBytes(t, "EncodeGlobal of i64, mut", types.EncodeGlobal(api.GlobalType{T: 0x7e, Mut: true}), []byte{0x7e, 1})
	for b := range 256 {
		checkBytes(t, "EncodeGlobal", types.EncodeGlobal(api.GlobalType{T: byte(b)}), []byte{byte(b), 0})
		checkBytes(t, "EncodeGlobal, mut", types.EncodeGlobal(api.GlobalType{T: byte(b), Mut: true}), []byte{byte(b), 1})
	}
}

// P4.3

func TestNameAndByte(t *testing.T) {
	for _, c := range []struct {
		b    byte
		name string
	}{{0x7f, "i32"}, {0x7e, "i64"}, {0x7d, "f32"}, {0x7c, "f64"}, {0x70, "funcref"}} {
		if got := types.Name(c.b); got != c.name {
			t.Errorf("Name(%x): %s, want %s", c.b, got, c.name)
		}
		if got := types.Byte(c.name); got != c.b {
			t.Errorf("Byte(%s): %x, want %x", c.name, got, c.b)
		}
	}
	for b := range 256 {
		name := modelName(b)
		if got := types.Name(byte(b)); got != name {
			t.Errorf("Name(%x): %s, want %s", b, got, name)
		}
		want := byte(b)
		if name == "?" {
			want = 0
		}
		if got := types.Byte(types.Name(byte(b))); got != want {
			t.Errorf("Byte(Name(%x)): %x, want %x", b, got, want)
		}
	}
}

func TestByteOfOtherStrings(t *testing.T) {
	list := []string{
		"", "?", "??", "i", "i3", "i32x", "i32 ", " i32", "i32\x00", "\x00i32", "I32", "i33", "i8", "i16", "i128", "32", "i64i64", "i32,i64", "(i32)", "f", "f16",
		"F64", "Funcref", "FUNCREF", "func", "funcre", "funcref ", "funcrefs", "externref", "v128", "\x7f", "\x70", "\x40", "\xff\xfe", strings.Repeat("i32", 1000),
	}
	for b := range 256 {
		c := string([]byte{byte(b)})
		list = append(list, c, "i"+c, "i32"+c, c+"i64", "funcref"+c)
	}
	for _, s := range list {
		if got := types.Byte(s); got != 0 {
			t.Errorf("Byte(%q): %x, want 0", s, got)
		}
	}
}

func TestText(t *testing.T) {
	for _, c := range []struct{ params, results, want string }{
		{"", "", "()->()"}, {"\x7f", "", "(i32)->()"}, {"", "\x7e", "()->(i64)"},
		{"\x7f\x7e", "\x7f", "(i32,i64)->(i32)"}, {"\x7e\x7e\x7e", "\x7e\x7f", "(i64,i64,i64)->(i64,i32)"},
		{"\x7d\x7c", "\x70", "(f32,f64)->(funcref)"}, {"\x00", "\x40\xff", "(?)->(?,?)"}, {"\xe2\x82\xac", "\xc3\xa9", "(?,?,?)->(?,?)"},
	} {
		if got := types.Text(api.FuncType{Params: c.params, Results: c.results}); got != c.want {
			t.Errorf("Text of % x and % x: %s, want %s", c.params, c.results, got, c.want)
		}
	}
	for x := range 256 {
		for y := range 256 {
			pair := string([]byte{byte(x), byte(y)})
			if got, want := types.Text(api.FuncType{Params: pair, Results: pair[1:]}), modelNames(pair)+"->"+modelNames(pair[1:]); got != want {
				t.Fatalf("Text of % x and % x: %s, want %s", pair, pair[1:], got, want)
			}
		}
	}
	for _, params := range typeLists() {
		for _, results := range typeLists() {
			if got, want := types.Text(api.FuncType{Params: params, Results: results}), modelNames(params)+"->"+modelNames(results); got != want {
				t.Errorf("Text of %d and %d types: %d bytes, want %d", len(params), len(results), len(got), len(want))
			}
		}
	}
}

// P4.4

func TestZero(t *testing.T) {
	for b := range 256 {
		if got, want := types.Zero(byte(b)), (api.Value{T: byte(b), N: 0}); got != want {
			t.Errorf("Zero(%x): %v, want %v", b, got, want)
		}
	}
}

func TestCutAndRight(t *testing.T) {
	for _, c := range []struct {
		v     api.Value
		cut   uint64
		right bool
	}{
		{api.Value{T: 0x7f, N: 0}, 0, true}, {api.Value{T: 0x7f, N: 7}, 7, true}, {api.Value{T: 0x7f, N: 0xffffffff}, 0xffffffff, true},
		{api.Value{T: 0x7f, N: 1 << 32}, 0, false}, {api.Value{T: 0x7f, N: 1<<32 + 5}, 5, false}, {api.Value{T: 0x7f, N: 1 << 63}, 0, false},
		{api.Value{T: 0x7f, N: math.MaxUint64}, 0xffffffff, false}, {api.Value{T: 0x7f, N: 0x80000000}, 0x80000000, true},
		{api.Value{T: 0x7e, N: 0}, 0, true}, {api.Value{T: 0x7e, N: 1 << 32}, 1 << 32, true}, {api.Value{T: 0x7e, N: 1<<32 + 5}, 1<<32 + 5, true},
		{api.Value{T: 0x7e, N: 1 << 63}, 1 << 63, true}, {api.Value{T: 0x7e, N: math.MaxUint64}, math.MaxUint64, true},
		{api.Value{T: 0x7d, N: 1}, 1, false}, {api.Value{T: 0x7c, N: 1<<32 + 5}, 1<<32 + 5, false}, {api.Value{T: 0x7d, N: 1<<32 + 5}, 1<<32 + 5, false},
		{api.Value{T: 0x70, N: 1<<32 + 5}, 1<<32 + 5, false}, {api.Value{}, 0, false}, {api.Value{T: 0x40, N: math.MaxUint64}, math.MaxUint64, false},
	} {
		checkValue(t, c.v, c.cut, c.right)
	}
	for b := range 256 {
		for _, n := range numbers() {
			v := api.Value{T: byte(b), N: n}
			checkValue(t, v, modelCut(v), modelRight(v))
		}
	}
}

// checkValue checks Cut and Right of one value, and Take of it alone.
func checkValue(t *testing.T, v api.Value, cut uint64, right bool) {
	t.Helper()
	if got := types.Cut(v); got.T != v.T || got.N != cut {
		t.Errorf("Cut(%v): %v, want the number %d", v, got, cut)
	}
	if got := types.Right(v); got != right {
		t.Errorf("Right(%v): %t, want %t", v, got, right)
	}
	checkTake(t, []api.Value{v}, string([]byte{v.T}), right)
}

// values are right ones of the types, with the numbers 0, 1 and so on.
func values(s string) []api.Value {
	var list []api.Value
	for i, b := range []byte(s) {
		list = append(list, api.Value{T: b, N: uint64(i)})
	}
	return list
}

func TestTakeOfRightValues(t *testing.T) {
	checkTake(t, nil, "", true)
	checkTake(t, []api.Value{}, "", true)
	for _, s := range []string{"\x7f", "\x7e", "\x7f\x7e", "\x7e\x7f\x7f", strings.Repeat("\x7f\x7e", 600)} {
		checkTake(t, values(s), s, true)
	}
	checkTake(t, []api.Value{{T: 0x7f, N: 1<<32 - 1}, {T: 0x7e, N: math.MaxUint64}}, "\x7f\x7e", true)
}

func TestTakeOfOtherNumbersOfValues(t *testing.T) {
	s := "\x7f\x7e\x7f\x7f\x7e"
	for n := range len(s) + 1 {
		for m := range len(s) + 1 {
			checkTake(t, values(s[:n]), s[:m], n == m)
		}
	}
	checkTake(t, nil, "\x7f", false)
	checkTake(t, nil, "\x00", false)
	checkTake(t, values("\x7f"), "", false)
	checkTake(t, values("\x7f")[:0], "\x7f", false)
}

// TestTakeOfWrongValues puts each thing that may be wrong at each place.
func TestTakeOfWrongValues(t *testing.T) {
	s := "\x7f\x7e\x7e\x7f"
	for at := range len(s) {
		for b := range 256 {
			list := values(s)
			list[at].T = byte(b)
			checkTake(t, list, s, byte(b) == s[at])
			other := []byte(s)
			other[at] = byte(b)
			checkTake(t, values(s), string(other), byte(b) == s[at])
			// Types that are none are taken by nobody, though they are the same.
			checkTake(t, values(string(other)), string(other), b == 0x7f || b == 0x7e)
		}
		list := values(s)
		list[at].N |= 1 << 32
		checkTake(t, list, s, s[at] == 0x7e)
		list[at].N = math.MaxUint64
		checkTake(t, list, s, s[at] == 0x7e)
	}
}

// P4.5

func TestFitsIsTransitive(t *testing.T) {
	var list []api.Limits
	for _, low := range []uint32{0, 1, 2, math.MaxUint32} {
		for _, high := range []uint32{0, 1, 2, math.MaxUint32} {
			list = append(list, api.Limits{Min: low, Max: high}, limits(low, high))
		}
	}
	chains, breaks := 0, 0
	for _, a := range list {
		for _, b := range list {
			for _, c := range list {
				if !types.Fits(a, b) || !types.Fits(b, c) {
					breaks++
					continue
				}
				chains++
				checkFits(t, a, c, true)
			}
		}
	}
	if chains == 0 || breaks == 0 {
		t.Errorf("%d chains, and %d that are none", chains, breaks)
	}
}

// P1

// TestAnyArguments calls the functions with what nobody would write, and looks at what they return where the model tells it.
func TestAnyArguments(t *testing.T) {
	seed := uint32(1)
	for n := range 300 {
		b := make([]byte, n)
		for i := range b {
			seed = seed*1664525 + 1013904223
			b[i] = byte(seed >> 24)
			if n%3 == 0 {
				b[i] = 0x7c + b[i]%4
			}
		}
		s, half := string(b), string(b[:n/2])
		if got, want := types.Values(s), modelValues(s); got != want {
			t.Errorf("Values(% x): %d, want %d", s, got, want)
		}
		if got, want := types.Text(api.FuncType{Params: s, Results: half}), modelNames(s)+"->"+modelNames(half); got != want {
			t.Errorf("Text of % x: %s, want %s", s, got, want)
		}
		right := !slices.ContainsFunc(b, func(x byte) bool { return x != 0x7f && x != 0x7e })
		checkTake(t, values(s), s, right)
		if got := types.Byte(s); got != 0 {
			t.Errorf("Byte(% x): %x", s, got)
		}
	}
}

func TestLongArguments(t *testing.T) {
	const n = 1 << 20
	for _, c := range []struct {
		b byte
		e api.Errno
	}{{0x7f, api.OK}, {0x7c, api.ErrFloat}, {0xff, api.ErrType}} {
		s := strings.Repeat(string([]byte{c.b}), n)
		f := api.FuncType{Params: s, Results: s}
		if got := types.Values(s); got != c.e {
			t.Errorf("Values of %d times %x: %d", n, c.b, got)
		}
		if got := types.Func(f); got != api.ErrMany {
			t.Errorf("Func of %d times %x: %d", n, c.b, got)
		}
		half := slices.Concat(modelNumber(n), []byte(s))
		if got := types.EncodeFunc(f); !bytes.Equal(got, slices.Concat([]byte{0x60}, half, half)) {
			t.Errorf("EncodeFunc of %d times %x is wrong", n, c.b)
		}
		if got, names := types.Text(f), modelNames(s); got != names+"->"+names {
			t.Errorf("Text of %d times %x is wrong", n, c.b)
		}
		if got := types.Take(values(s), s); got != (c.e == api.OK) {
			t.Errorf("Take of %d times %x: %t", n, c.b, got)
		}
		if got := types.Byte(s); got != 0 {
			t.Errorf("Byte of %d times %x: %x", n, c.b, got)
		}
	}
}

// P2

func TestArgumentsStay(t *testing.T) {
	full := []api.Value{{T: 0x7f, N: 1 << 40}, {T: 0x7e, N: 1 << 40}, {T: 0x7d, N: 3}, {T: 0, N: 4}, {T: 0x7f, N: 5}}
	before := slices.Clone(full)
	for at := range len(full) + 1 {
		for _, s := range []string{"", "\x7f", "\x7f\x7e", "\x7f\x7e\x7d\x00\x7f", "\x7e\x7f\x7f"} {
			got := types.Take(full[:at], s)
			// What lies behind the values has no say.
			checkTake(t, slices.Clip(slices.Clone(before[:at])), s, got)
		}
	}
	if !slices.Equal(full, before) {
		t.Errorf("%v became %v", before, full)
	}
	v := full[0]
	types.Right(v)
	types.Cut(v)
	if v != before[0] {
		t.Errorf("%v became %v", before[0], v)
	}
}

// TestResultsAreNew overwrites each encoding with all that it has room for, and encodes once more.
func TestResultsAreNew(t *testing.T) {
	for _, c := range []struct {
		what   string
		encode func() []byte
		want   []byte
	}{
		{"EncodeFunc", func() []byte { return types.EncodeFunc(api.FuncType{Params: "\x7f\x7e", Results: "\x7f"}) }, []byte{0x60, 2, 0x7f, 0x7e, 1, 0x7f}},
		{"EncodeFunc of none", func() []byte { return types.EncodeFunc(api.FuncType{}) }, []byte{0x60, 0, 0}},
		{"EncodeLimits", func() []byte { return types.EncodeLimits(limits(127, 128)) }, []byte{1, 0x7f, 0x80, 1}},
		{"EncodeLimits, not bound", func() []byte { return types.EncodeLimits(atLeast(3)) }, []byte{0, 3}},
		{"EncodeGlobal", func() []byte { return types.EncodeGlobal(api.GlobalType{T: 0x7f, Mut: true}) }, []byte{0x7f, 1}},
	} {
		for range 3 {
			first, second := c.encode(), c.encode()
			first = first[:cap(first)]
			for i := range first {
				first[i] = 0xaa
			}
			checkBytes(t, c.what, second, c.want)
		}
	}
}

// TestCallsDoNotMatter calls the functions again behind calls with other arguments.
func TestCallsDoNotMatter(t *testing.T) {
	for range 3 {
		checkFunc(t, "\x7d", "", api.ErrFloat)
		checkFunc(t, "\x7f", "\x7f", api.OK)
		checkFunc(t, "\x00", "\x7f", api.ErrType)
		checkLimits(t, limits(3, 2), 10, api.ErrLimits)
		checkLimits(t, limits(2, 3), 10, api.OK)
		checkFits(t, atLeast(1), limits(1, 2), false)
		checkFits(t, limits(1, 2), atLeast(1), true)
		checkValue(t, api.Value{T: 0x7f, N: 1<<32 + 5}, 5, false)
		checkValue(t, api.Value{T: 0x7e, N: 1<<32 + 5}, 1<<32+5, true)
		if types.Name(0x7c) != "f64" || types.Byte("f64") != 0x7c || types.Name(0x7b) != "?" || types.Byte("?") != 0 {
			t.Errorf("Name or Byte changed")
		}
	}
}
