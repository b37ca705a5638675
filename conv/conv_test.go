package conv_test

import (
	"bytes"
	"math"
	"math/big"
	"slices"
	"testing"

	"creel/api"
	"creel/conv"
	"creel/trial"
)

// The tables and the models are written from the chapters with numbers of their own, and ask no layer.

// The types of the numbers.
const (
	i32 = 0x7f
	i64 = 0x7e
)

// last is the greatest number, and -1.
const last = 1<<64 - 1

// access is a row of the instructions that read or write a memory.
type access struct {
	op     byte
	bytes  int
	t      byte
	signed bool
}

func loads() []access {
	return []access{
		{0x28, 4, i32, false},
		{0x29, 8, i64, false},
		{0x2c, 1, i32, true},
		{0x2d, 1, i32, false},
		{0x2e, 2, i32, true},
		{0x2f, 2, i32, false},
		{0x30, 1, i64, true},
		{0x31, 1, i64, false},
		{0x32, 2, i64, true},
		{0x33, 2, i64, false},
		{0x34, 4, i64, true},
		{0x35, 4, i64, false},
	}
}

func stores() []access {
	return []access{
		{0x36, 4, i32, false},
		{0x37, 8, i64, false},
		{0x3a, 1, i32, false},
		{0x3b, 2, i32, false},
		{0x3c, 1, i64, false},
		{0x3d, 2, i64, false},
		{0x3e, 4, i64, false},
	}
}

// others are the opcodes that are none of a list.
func others(list ...byte) []byte {
	var rest []byte
	for op := range 256 {
		if !slices.Contains(list, byte(op)) {
			rest = append(rest, byte(op))
		}
	}
	return rest
}

func opcodes(list []access) []byte {
	var ops []byte
	for _, a := range list {
		ops = append(ops, a.op)
	}
	return ops
}

// digits are those of a number to the base of 256, the lowest one first.
type digits [8]byte

func digitsOf(v uint64) digits {
	var d digits
	for i := range d {
		d[i] = byte(v % 256)
		v /= 256
	}
	return d
}

func (d digits) number() uint64 {
	v := uint64(0)
	for _, x := range slices.Backward(d[:]) {
		v = v*256 + uint64(x)
	}
	return v
}

// cut leaves n digits, with zeros above, or with what is above a number of that sign.
func (d digits) cut(n int, signed bool) digits {
	fill := byte(0)
	if signed && d[n-1] >= 128 {
		fill = 255
	}
	for i := n; i < len(d); i++ {
		d[i] = fill
	}
	return d
}

// loaded is the value that a load makes of the digits.
func (a access) loaded(d digits) api.Value {
	d = d.cut(a.bytes, a.signed)
	if a.t == i32 {
		d = d.cut(4, false)
	}
	return api.Value{T: a.t, N: d.number()}
}

// numbers are some about the powers of two and their negatives, some patterns of bytes, and some by chance.
func numbers() []uint64 {
	list := []uint64{
		0, 0x0102030405060708, 0x0807060504030201, 0x8182838485868788, 0x8887868584838281,
		0x80007f00ff0100fe, 0x7f80ff017f80ff01, 0x123456789abcdef0, 0xfedcba9876543210,
	}
	for k := range 64 {
		p := uint64(1) << k
		list = append(list, p-1, p, p+1, -p-1, -p, -p+1)
	}
	next := trial.Chance(20)
	for range 500 {
		v := uint64(0)
		for range 4 {
			v = v<<16 | uint64(next(1<<16))
		}
		list = append(list, v, v>>next(64))
	}
	return list
}

// far are lengths beyond those of a number, some of which seem right if only their lowest bits are looked at.
func far() []int {
	return []int{
		-1, -2, -7, -8, -9, -64, -252, -255, -1 << 16, -1<<32 + 1, -1<<32 + 4, -1<<61 + 1, math.MinInt, math.MinInt + 4,
		9, 10, 16, 64, 256, 257, 260, 264, 1<<16 + 4, 1 << 32, 1<<32 + 4, 1<<61 + 4, math.MaxInt - 3, math.MaxInt,
	}
}

// P20.1

func TestConversions(t *testing.T) {
	rows := []struct{ v, lower, signed uint64 }{
		{0, 0, 0},
		{1, 1, 1},
		{1<<31 - 1, 0x7fffffff, 0x7fffffff},
		{1 << 31, 0x80000000, 0xffffffff80000000},
		{1<<31 + 1, 0x80000001, 0xffffffff80000001},
		{1<<32 - 1, 0xffffffff, last},
		{1 << 32, 0, 0},
		{1<<32 + 1, 1, 1},
		{1<<63 - 1, 0xffffffff, last},
		{1 << 63, 0, 0},
		{last, 0xffffffff, last},
		// with other bits above the lowest 32
		{0xffffffff00000000, 0, 0},
		{0xffffffff7fffffff, 0x7fffffff, 0x7fffffff},
		{0xffffffff80000000, 0x80000000, 0xffffffff80000000},
		{0x0000000180000000, 0x80000000, 0xffffffff80000000},
		{0x800000007fffffff, 0x7fffffff, 0x7fffffff},
		{0x123456789abcdef0, 0x9abcdef0, 0xffffffff9abcdef0},
		{0xfedcba9876543210, 0x76543210, 0x76543210},
	}
	for _, r := range rows {
		converts(t, 0xa7, r.v, api.Value{T: i32, N: r.lower})
		converts(t, 0xac, r.v, api.Value{T: i64, N: r.signed})
		converts(t, 0xad, r.v, api.Value{T: i64, N: r.lower})
	}
	for _, v := range numbers() {
		d := digitsOf(v)
		converts(t, 0xa7, v, api.Value{T: i32, N: d.cut(4, false).number()})
		converts(t, 0xac, v, api.Value{T: i64, N: d.cut(4, true).number()})
		converts(t, 0xad, v, api.Value{T: i64, N: d.cut(4, false).number()})
	}
}

func converts(t *testing.T, op byte, v uint64, want api.Value) {
	t.Helper()
	if got, ok := conv.Do(op, v); got != want || !ok {
		t.Errorf("Do(%x, %x): %x, %t, want %x", op, v, got, ok, want)
	}
}

func TestOthersAreNoConversions(t *testing.T) {
	for _, op := range others(0xa7, 0xac, 0xad) {
		for _, v := range numbers() {
			if got, ok := conv.Do(op, v); got != (api.Value{}) || ok {
				t.Errorf("Do(%x, %x): %x, %t, want nothing", op, v, got, ok)
			}
		}
	}
}

func TestExtend(t *testing.T) {
	rows := []struct {
		v    uint64
		n    int
		want uint64
	}{
		{0x7f, 1, 0x7f},
		{0x80, 1, 0xffffffffffffff80},
		{0xff, 1, last},
		{0x1234567f, 1, 0x7f},
		{0x7fff, 2, 0x7fff},
		{0x8000, 2, 0xffffffffffff8000},
		{0x7fffff, 3, 0x7fffff},
		{0x800000, 3, 0xffffffffff800000},
		{0x7fffffff, 4, 0x7fffffff},
		{0x80000000, 4, 0xffffffff80000000},
		{0x7fffffffff, 5, 0x7fffffffff},
		{0x8000000000, 5, 0xffffff8000000000},
		{0x7fffffffffff, 6, 0x7fffffffffff},
		{0x800000000000, 6, 0xffff800000000000},
		{0x7fffffffffffff, 7, 0x7fffffffffffff},
		{0x80000000000000, 7, 0xff80000000000000},
		{1<<63 - 1, 8, 1<<63 - 1},
		{1 << 63, 8, 1 << 63},
		// what is above does not matter
		{0x8182838485868788, 1, 0xffffffffffffff88},
		{0x8182838485868708, 1, 0x08},
		{0x8182838485860788, 2, 0x0788},
		{0x0102030405860708, 3, 0xffffffffff860708},
		{0x81828384058687ff, 4, 0x058687ff},
		{0x0000000180000000, 4, 0xffffffff80000000},
		{0xffffff7fffffffff, 5, 0x7fffffffff},
		{0x7fff800000000000, 6, 0xffff800000000000},
		{0xff7fffffffffffff, 7, 0x7fffffffffffff},
		{0x8182838485868788, 8, 0x8182838485868788},
		// lengths that there are not
		{0x8182838485868788, 0, 0x8182838485868788},
		{0x8182838485868788, 9, 0x8182838485868788},
		{0x8182838485868788, -1, 0x8182838485868788},
		{0x80, 0, 0x80},
		{0x80, 9, 0x80},
		{0x80, -1, 0x80},
	}
	for _, r := range rows {
		extends(t, r.v, r.n, r.want)
	}
	for _, v := range numbers() {
		for n := 1; n <= 8; n++ {
			extends(t, v, n, digitsOf(v).cut(n, true).number())
		}
		for _, n := range append(far(), 0) {
			extends(t, v, n, v)
		}
	}
}

func extends(t *testing.T, v uint64, n int, want uint64) {
	t.Helper()
	if got := conv.Extend(v, n); got != want {
		t.Errorf("Extend(%x, %d): %x, want %x", v, n, got, want)
	}
}

// P20.2

func TestBytes(t *testing.T) {
	const v = 0x8182838485868788
	all := []byte{0x88, 0x87, 0x86, 0x85, 0x84, 0x83, 0x82, 0x81}
	for n := range 9 {
		hasBytes(t, v, n, all[:n])
	}
	hasBytes(t, 0, 8, make([]byte, 8))
	hasBytes(t, 0x1ff, 1, []byte{0xff})
	hasBytes(t, 0x100, 1, []byte{0})
	hasBytes(t, 0x100, 2, []byte{0, 1})
	hasBytes(t, last, 3, []byte{0xff, 0xff, 0xff})
	for _, v := range numbers() {
		all := digitsOf(v)
		for n := range 9 {
			hasBytes(t, v, n, all[:n])
		}
		for _, n := range far() {
			if n < 0 {
				hasBytes(t, v, n, nil)
			} else {
				hasBytes(t, v, n, all[:])
			}
		}
	}
}

func hasBytes(t *testing.T, v uint64, n int, want []byte) {
	t.Helper()
	if got := conv.Bytes(v, n); !bytes.Equal(got, want) {
		t.Errorf("Bytes(%x, %d): %x, want %x", v, n, got, want)
	}
}

func TestNumber(t *testing.T) {
	rows := []struct {
		b    []byte
		want uint64
	}{
		{nil, 0},
		{[]byte{}, 0},
		{[]byte{0x81}, 0x81},
		{[]byte{0x81, 0x92}, 0x9281},
		{[]byte{0x81, 0x92, 0xa3}, 0xa39281},
		{[]byte{0x81, 0x92, 0xa3, 0xb4}, 0xb4a39281},
		{[]byte{0x81, 0x92, 0xa3, 0xb4, 0xc5}, 0xc5b4a39281},
		{[]byte{0x81, 0x92, 0xa3, 0xb4, 0xc5, 0xd6}, 0xd6c5b4a39281},
		{[]byte{0x81, 0x92, 0xa3, 0xb4, 0xc5, 0xd6, 0xe7}, 0xe7d6c5b4a39281},
		{[]byte{0x81, 0x92, 0xa3, 0xb4, 0xc5, 0xd6, 0xe7, 0xf8}, 0xf8e7d6c5b4a39281},
		{[]byte{0x81, 0x92, 0xa3, 0xb4, 0xc5, 0xd6, 0xe7, 0xf8, 0xff}, 0xf8e7d6c5b4a39281},
		{[]byte{1, 0, 0, 0, 0, 0, 0, 0, 1, 1}, 1},
		{[]byte{0, 0, 0, 0, 0, 0, 0, 0, 5}, 0},
		{[]byte{0, 0, 0, 0, 0, 0, 0, 1}, 1 << 56},
		{[]byte{0, 0, 0, 0, 1}, 1 << 32},
		{[]byte{5, 0, 0}, 5},
	}
	for _, r := range rows {
		isNumber(t, r.b, r.want)
	}
	isNumber(t, bytes.Repeat([]byte{0xff}, 1000), last)
	isNumber(t, append([]byte{7, 0, 0, 0, 0, 0, 0, 0x80}, bytes.Repeat([]byte{0xff}, 1<<16)...), 1<<63+7)
}

func isNumber(t *testing.T, b []byte, want uint64) {
	t.Helper()
	if got := conv.Number(b); got != want {
		t.Errorf("Number(%x): %x, want %x", trial.Short(b), got, want)
	}
}

func TestNumberOfBytes(t *testing.T) {
	for _, v := range numbers() {
		d := digitsOf(v)
		isNumber(t, d[:], v)
		isNumber(t, append(d[:], 0xff, 1), v)
		isNumber(t, conv.Bytes(v, math.MaxInt), v)
		for n := range 9 {
			want := d.cut(n, false).number()
			isNumber(t, d[:n], want)
			isNumber(t, conv.Bytes(v, n), want)
		}
	}
}

// P20.3

func TestRead(t *testing.T) {
	rows := []struct {
		op   byte
		b    []byte
		want api.Value
	}{
		{0x28, []byte{0x78, 0x56, 0x34, 0x12}, api.Value{T: i32, N: 0x12345678}},
		{0x28, []byte{0xff, 0xff, 0xff, 0x7f}, api.Value{T: i32, N: 0x7fffffff}},
		{0x28, []byte{0, 0, 0, 0x80}, api.Value{T: i32, N: 0x80000000}},
		{0x28, []byte{0xff, 0xff, 0xff, 0xff}, api.Value{T: i32, N: 0xffffffff}},
		{0x29, []byte{8, 7, 6, 5, 4, 3, 2, 1}, api.Value{T: i64, N: 0x0102030405060708}},
		{0x29, []byte{0xff, 0xff, 0xff, 0xff, 0xff, 0xff, 0xff, 0x7f}, api.Value{T: i64, N: 1<<63 - 1}},
		{0x29, []byte{0, 0, 0, 0, 0, 0, 0, 0x80}, api.Value{T: i64, N: 1 << 63}},
		{0x29, []byte{0, 0, 0, 0x80, 0, 0, 0, 0}, api.Value{T: i64, N: 1 << 31}},
		{0x2c, []byte{0x7f}, api.Value{T: i32, N: 0x7f}},
		{0x2c, []byte{0x80}, api.Value{T: i32, N: 0xffffff80}},
		{0x2c, []byte{0xff}, api.Value{T: i32, N: 0xffffffff}}, // the chapter's example
		{0x2d, []byte{0x7f}, api.Value{T: i32, N: 0x7f}},
		{0x2d, []byte{0x80}, api.Value{T: i32, N: 0x80}},
		{0x2e, []byte{0x80, 0x7f}, api.Value{T: i32, N: 0x7f80}},
		{0x2e, []byte{0, 0x80}, api.Value{T: i32, N: 0xffff8000}},
		{0x2f, []byte{0x80, 0x7f}, api.Value{T: i32, N: 0x7f80}},
		{0x2f, []byte{0, 0x80}, api.Value{T: i32, N: 0x8000}},
		{0x30, []byte{0x7f}, api.Value{T: i64, N: 0x7f}},
		{0x30, []byte{0x80}, api.Value{T: i64, N: 0xffffffffffffff80}},
		{0x31, []byte{0x7f}, api.Value{T: i64, N: 0x7f}},
		{0x31, []byte{0x80}, api.Value{T: i64, N: 0x80}},
		{0x32, []byte{0x80, 0x7f}, api.Value{T: i64, N: 0x7f80}},
		{0x32, []byte{0, 0x80}, api.Value{T: i64, N: 0xffffffffffff8000}},
		{0x33, []byte{0x80, 0x7f}, api.Value{T: i64, N: 0x7f80}},
		{0x33, []byte{0, 0x80}, api.Value{T: i64, N: 0x8000}},
		{0x34, []byte{0xff, 0xff, 0xff, 0x7f}, api.Value{T: i64, N: 0x7fffffff}},
		{0x34, []byte{0, 0, 0, 0x80}, api.Value{T: i64, N: 0xffffffff80000000}},
		{0x35, []byte{0xff, 0xff, 0xff, 0x7f}, api.Value{T: i64, N: 0x7fffffff}},
		{0x35, []byte{0, 0, 0, 0x80}, api.Value{T: i64, N: 0x80000000}},
	}
	for _, r := range rows {
		reads(t, r.op, r.b, r.want)
	}
	for _, a := range loads() {
		for _, v := range numbers() {
			d := digitsOf(v)
			reads(t, a.op, d[:a.bytes], a.loaded(d))
		}
	}
}

func reads(t *testing.T, op byte, b []byte, want api.Value) {
	t.Helper()
	if got, ok := conv.Read(op, b); got != want || !ok {
		t.Errorf("Read(%x, %x): %x, %t, want %x", op, b, got, ok, want)
	}
}

func readsNothing(t *testing.T, op byte, b []byte) {
	t.Helper()
	if got, ok := conv.Read(op, b); got != (api.Value{}) || ok {
		t.Errorf("Read(%x, %x): %x, %t, want nothing", op, trial.Short(b), got, ok)
	}
}

func TestReadOfOtherLengths(t *testing.T) {
	long := bytes.Repeat([]byte{0x81}, 1000)
	for _, a := range loads() {
		readsNothing(t, a.op, nil)
		readsNothing(t, a.op, []byte{})
		for n := range 20 {
			if n != a.bytes {
				readsNothing(t, a.op, long[:n])
				readsNothing(t, a.op, make([]byte, n))
			}
		}
		readsNothing(t, a.op, long[:256+a.bytes])
		readsNothing(t, a.op, long)
	}
}

func TestOthersDoNotRead(t *testing.T) {
	// They are the stores, the floating-point accesses 2a, 2b, 38 and 39, and all else.
	for _, op := range others(opcodes(loads())...) {
		readsNothing(t, op, nil)
		for n := range 10 {
			readsNothing(t, op, bytes.Repeat([]byte{0x81}, n))
			readsNothing(t, op, make([]byte, n))
		}
	}
}

func TestWrite(t *testing.T) {
	rows := []struct {
		op   byte
		v    uint64
		want []byte
	}{
		{0x36, 0x12345678, []byte{0x78, 0x56, 0x34, 0x12}},
		{0x36, 0x8182838485868788, []byte{0x88, 0x87, 0x86, 0x85}},
		{0x36, 1 << 32, []byte{0, 0, 0, 0}},
		{0x37, 0x8182838485868788, []byte{0x88, 0x87, 0x86, 0x85, 0x84, 0x83, 0x82, 0x81}},
		{0x37, 1, []byte{1, 0, 0, 0, 0, 0, 0, 0}},
		{0x3a, 0x7f, []byte{0x7f}},
		{0x3a, 0x80, []byte{0x80}},
		{0x3a, 0x8182838485868788, []byte{0x88}},
		{0x3a, 0x100, []byte{0}},
		{0x3b, 0x8182838485868788, []byte{0x88, 0x87}},
		{0x3b, 0x10000, []byte{0, 0}},
		{0x3c, 0x8182838485868788, []byte{0x88}},
		{0x3c, 0x100, []byte{0}},
		{0x3d, 0x8182838485868788, []byte{0x88, 0x87}},
		{0x3d, 0x10000, []byte{0, 0}},
		{0x3e, 0x8182838485868788, []byte{0x88, 0x87, 0x86, 0x85}},
		{0x3e, last, []byte{0xff, 0xff, 0xff, 0xff}},
		{0x3e, 1 << 32, []byte{0, 0, 0, 0}},
	}
	for _, r := range rows {
		writes(t, r.op, r.v, r.want)
	}
	for _, a := range stores() {
		for _, v := range numbers() {
			d := digitsOf(v)
			writes(t, a.op, v, d[:a.bytes])
		}
	}
}

func writes(t *testing.T, op byte, v uint64, want []byte) {
	t.Helper()
	if got, ok := conv.Write(op, v); !bytes.Equal(got, want) || !ok {
		t.Errorf("Write(%x, %x): %x, %t, want %x", op, v, got, ok, want)
	}
}

func TestOthersDoNotWrite(t *testing.T) {
	// They are the loads, the floating-point accesses 2a, 2b, 38 and 39, and all else.
	for _, op := range others(opcodes(stores())...) {
		for _, v := range []uint64{0, 1, 0x8182838485868788, last} {
			if got, ok := conv.Write(op, v); len(got) != 0 || ok {
				t.Errorf("Write(%x, %x): %x, %t, want nothing", op, v, got, ok)
			}
		}
	}
}

// P20.4

func TestPlace(t *testing.T) {
	const far = 0xffffffff // the farthest of 32 bits
	rows := []struct {
		base, offset uint64
		n            int
		size         uint64
		at           uint64
		ok           bool
	}{
		// one byte before the end, at it, and behind it
		{10, 5, 4, 20, 15, true},
		{10, 5, 5, 20, 15, true},
		{10, 5, 6, 20, 15, false},
		{0, 0, 7, 8, 0, true},
		{0, 0, 8, 8, 0, true},
		{0, 0, 9, 8, 0, false},
		{19, 0, 1, 20, 19, true},
		{20, 0, 1, 20, 20, false},
		{0, 21, 1, 20, 21, false},
		// no bytes
		{10, 9, 0, 20, 19, true},
		{10, 10, 0, 20, 20, true},
		{10, 11, 0, 20, 21, false},
		{0, 0, 0, 0, 0, true},
		{0, 1, 0, 0, 1, false},
		// less than none
		{10, 5, -1, 20, 15, false},
		{10, 5, -15, 20, 15, false},
		{0, 0, -1, 0, 0, false},
		{0, 0, -1, last, 0, false},
		{10, 5, math.MinInt, 20, 15, false},
		{10, 5, math.MinInt, last, 15, false},
		{0, 0, math.MinInt + 1, 20, 0, false},
		// bits above the lowest 32
		{1<<32 + 10, 5, 5, 20, 15, true},
		{10, 1<<32 + 5, 5, 20, 15, true},
		{1<<63 + 10, 1<<63 + 5, 5, 20, 15, true},
		{0xffffffff<<32 + 10, 0xffffffff<<32 + 5, 6, 20, 15, false},
		{1 << 32, 0, 0, 0, 0, true},
		{last, 0, 0, last, far, true},
		{0, last, 0, last, far, true},
		{last, 1, 0, 0, 1 << 32, false},
		// a sum above 2^32
		{far, 1, 0, 1 << 32, 1 << 32, true},
		{far, 1, 1, 1 << 32, 1 << 32, false},
		{far, 1, 1, 1<<32 + 1, 1 << 32, true},
		{far, 1, 4, 100, 1 << 32, false},
		{0xfffffffe, 4, 1, 1 << 32, 1<<32 + 2, false},
		{0xfffffffc, 0, 4, 1 << 32, 0xfffffffc, true},
		{0xfffffffd, 0, 4, 1 << 32, 0xfffffffd, false},
		{far, far, 2, 1 << 33, 1<<33 - 2, true},
		{far, far, 3, 1 << 33, 1<<33 - 2, false},
		{last, last, 8, last, 1<<33 - 2, true},
		// at the ends of the sizes, and of the lengths
		{0, 0, 1, 0, 0, false},
		{0, 0, math.MaxInt, last, 0, true},
		{far, far, math.MaxInt, last, 1<<33 - 2, true},
		{0, 0, math.MaxInt, math.MaxInt, 0, true},
		{1, 0, math.MaxInt, math.MaxInt, 1, false},
		{1, 0, math.MaxInt, 1 << 63, 1, true},
		{0, 2, math.MaxInt, 1 << 63, 2, false},
		{0, 0, math.MaxInt, 20, 0, false},
		{10, 5, 1 << 32, 20, 15, false},
	}
	for _, r := range rows {
		places(t, r.base, r.offset, r.n, r.size, r.at, r.ok)
	}
}

func places(t *testing.T, base, offset uint64, n int, size, at uint64, ok bool) {
	t.Helper()
	if got, is := conv.Place(base, offset, n, size); got != at || is != ok {
		t.Errorf("Place(%x, %x, %d, %x): %x, %t, want %x, %t", base, offset, n, size, got, is, at, ok)
	}
}

// placed is the model of Place, whose numbers do not wrap round.
func placed(base, offset uint64, n int, size uint64) (uint64, bool) {
	at := base%(1<<32) + offset%(1<<32)
	end := new(big.Int).Add(new(big.Int).SetUint64(at), big.NewInt(int64(n)))
	return at, n >= 0 && end.Cmp(new(big.Int).SetUint64(size)) <= 0
}

func TestPlaceOfAll(t *testing.T) {
	starts := []uint64{0, 1, 7, 1 << 31, 1<<32 - 2, 1<<32 - 1, 1 << 32, 1<<32 + 7, 1 << 63, 0x123456789abcdef0, last - 1, last}
	lengths := append(far(), 0, 1, 2, 3, 4, 7, 8, 1<<31, 1<<33, math.MaxInt-7)
	for _, base := range starts {
		for _, offset := range starts {
			for _, n := range lengths {
				at, _ := placed(base, offset, 0, 0)
				end := at + uint64(n)
				for _, size := range []uint64{0, 1, at - 1, at, at + 1, end - 1, end, end + 1, 1<<32 - 1, 1 << 32, 1 << 33, 1<<63 - 1, 1 << 63, last - 1, last} {
					_, ok := placed(base, offset, n, size)
					places(t, base, offset, n, size, at, ok)
				}
			}
		}
	}
}

func TestEveryByteOfAPlaceIsBelowTheSize(t *testing.T) {
	for base := range uint64(10) {
		for offset := range uint64(10) {
			for size := range uint64(30) {
				for n := range 20 {
					ok := base+offset <= size
					for i := range uint64(n) {
						ok = ok && base+offset+i < size
					}
					places(t, base, offset, n, size, base+offset, ok)
				}
			}
		}
	}
}

// P20.5

func TestReadOfWhatIsWritten(t *testing.T) {
	pairs := 0
	for _, s := range stores() {
		for _, l := range loads() {
			if l.bytes != s.bytes {
				continue
			}
			pairs++
			for _, v := range numbers() {
				b, _ := conv.Write(s.op, v)
				reads(t, l.op, b, l.loaded(digitsOf(v)))
			}
		}
	}
	if pairs != 23 { // 8 of a byte, 8 of two, 6 of four, and one of eight
		t.Errorf("%d pairs", pairs)
	}
	for _, v := range numbers() {
		whole, _ := conv.Write(0x37, v)
		reads(t, 0x29, whole, api.Value{T: i64, N: v})
		half, _ := conv.Write(0x36, v)
		reads(t, 0x28, half, api.Value{T: i32, N: v % (1 << 32)})
		again, _ := conv.Write(0x3e, v)
		reads(t, 0x35, again, api.Value{T: i64, N: v % (1 << 32)})
	}
}

// P1

func TestCallsEndForAllArguments(t *testing.T) {
	long := make([]byte, 1<<16)
	for op := range 256 {
		for _, v := range []uint64{0, 1 << 63, last} {
			conv.Do(byte(op), v)
			conv.Write(byte(op), v)
		}
		for _, b := range [][]byte{nil, {}, long[:1], long[:7], long[:9], long} {
			conv.Read(byte(op), b)
			conv.Number(b)
		}
	}
	for _, n := range append(far(), 0, 1, 8) {
		for _, v := range []uint64{0, 1 << 63, last} {
			conv.Extend(v, n)
			conv.Bytes(v, n)
			conv.Place(v, v, n, v)
		}
	}
}

// P2

// spare returns bytes that have room behind them, and a function that tells whether they, or what is behind them, have changed.
func spare(n int) (b []byte, changed func() bool) {
	room := make([]byte, n+16)
	for i := range room {
		room[i] = byte(0x81 + i)
	}
	before := slices.Clone(room)
	return room[:n], func() bool { return !bytes.Equal(room, before) }
}

func TestArgumentsAreLeft(t *testing.T) {
	for n := range 20 {
		b, changed := spare(n)
		conv.Number(b)
		for op := range 256 {
			conv.Read(byte(op), b)
		}
		if changed() {
			t.Errorf("the bytes, or what is behind them, changed: %x", b)
		}
	}
}

func TestArgumentsAreNotKept(t *testing.T) {
	for _, a := range loads() {
		b, _ := spare(a.bytes)
		v, ok := conv.Read(a.op, b)
		n := conv.Number(b)
		trial.Spoil(b, 0x55)
		again, _ := spare(a.bytes)
		if w, is := conv.Read(a.op, again); w != v || is != ok {
			t.Errorf("Read(%x, %x): %x, %t, and then %x, %t", a.op, again, v, ok, w, is)
		}
		isNumber(t, again, n)
	}
}

func TestResultsAreNew(t *testing.T) {
	results := []func(v uint64) []byte{}
	for n := range 10 {
		results = append(results, func(v uint64) []byte { return conv.Bytes(v, n) })
	}
	for op := range 256 {
		results = append(results, func(v uint64) []byte { b, _ := conv.Write(byte(op), v); return b })
	}
	for _, get := range results {
		const v, w = 0x8182838485868788, 0x0102030405060708
		first := get(v)
		want := slices.Clone(first)
		for _, get := range results {
			trial.Spoil(get(w), 0x55)
		}
		if !bytes.Equal(first, want) {
			t.Errorf("%x has become %x", want, first)
		}
		trial.Spoil(first, 0x55)
		if again := get(v); !bytes.Equal(again, want) {
			t.Errorf("%x, and then %x", want, again)
		}
	}
}

// TestCalls has results that are the same ones whatever is called in between, calls that yield nothing among it.
func TestCalls(t *testing.T) {
	next := trial.Chance(21)
	list := numbers()
	number := func() uint64 { return list[next(len(list))] }
	load := func() access { return loads()[next(len(loads()))] }
	for range 20000 {
		op, v, w, n := byte(next(256)), number(), number(), next(12)-2
		a, d := load(), digitsOf(number())
		done, ok := conv.Do(op, v)
		extended := conv.Extend(v, n)
		b := conv.Bytes(v, n)
		at, in := conv.Place(v, w, n, d.number())
		written, does := conv.Write(op, v)

		conv.Do(byte(next(256)), number())
		conv.Extend(number(), next(12)-2)
		conv.Number(conv.Bytes(number(), next(12)-2))
		conv.Place(number(), number(), next(12)-2, number())
		conv.Write(byte(next(256)), number())
		conv.Read(load().op, make([]byte, next(10)))

		if got, is := conv.Do(op, v); got != done || is != ok {
			t.Errorf("Do(%x, %x): %x, %t, and then %x, %t", op, v, done, ok, got, is)
		}
		extends(t, v, n, extended)
		hasBytes(t, v, n, b)
		places(t, v, w, n, d.number(), at, in)
		if got, is := conv.Write(op, v); !bytes.Equal(got, written) || is != does {
			t.Errorf("Write(%x, %x): %x, %t, and then %x, %t", op, v, written, does, got, is)
		}
		reads(t, a.op, d[:a.bytes], a.loaded(d))
	}
}
