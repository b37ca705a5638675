package wide_test

import (
	"testing"

	"creel/trial"
	"creel/wide"
)

// The opcodes and the results are written from the chapter with numbers of their own.

func layer() trial.Arith[uint64] {
	return trial.Arith[uint64]{
		Bits: 64,
		Ops: [trial.Operators]byte{
			trial.Eqz: 0x50, trial.Eq: 0x51, trial.Ne: 0x52,
			trial.LtS: 0x53, trial.LtU: 0x54, trial.GtS: 0x55, trial.GtU: 0x56,
			trial.LeS: 0x57, trial.LeU: 0x58, trial.GeS: 0x59, trial.GeU: 0x5a,
			trial.Clz: 0x79, trial.Ctz: 0x7a, trial.Popcnt: 0x7b,
			trial.Add: 0x7c, trial.Sub: 0x7d, trial.Mul: 0x7e,
			trial.DivS: 0x7f, trial.DivU: 0x80, trial.RemS: 0x81, trial.RemU: 0x82,
			trial.And: 0x83, trial.Or: 0x84, trial.Xor: 0x85,
			trial.Shl: 0x86, trial.ShrS: 0x87, trial.ShrU: 0x88, trial.Rotl: 0x89, trial.Rotr: 0x8a,
		},
		One: wide.One,
		Two: wide.Two,
	}
}

// Numbers at the ends: as signed ones, greatest is followed by least, and last is -1.
const (
	greatest = 1<<63 - 1
	least    = 1 << 63
	last     = 1<<64 - 1
)

// minus is the number that stands for -n.
func minus(n uint64) uint64 { return last - n + 1 }

// P19.1

func TestOne(t *testing.T) {
	layer().Yields(t, []trial.Operator{trial.Eqz, trial.Clz, trial.Ctz, trial.Popcnt}, [][]uint64{
		{0, 1, 64, 64, 0},
		{1, 0, 63, 0, 1},
		{2, 0, 62, 1, 1},
		{3, 0, 62, 0, 2},
		{0x000000007fffffff, 0, 33, 0, 31},
		{0x0000000080000000, 0, 32, 31, 1},
		{0x0000000080000001, 0, 32, 0, 2},
		{0x00000000ffffffff, 0, 32, 0, 32},
		{0x0000000100000000, 0, 31, 32, 1},
		{0x0000000100000001, 0, 31, 0, 2},
		{0x00000001ffffffff, 0, 31, 0, 33},
		{greatest, 0, 1, 0, 63},
		{least, 0, 0, 63, 1},
		{last, 0, 0, 0, 64},
		{0x8000000000000001, 0, 0, 0, 2},
		{0x8000000100000000, 0, 0, 32, 2},
		{0x00ffffffffffffff, 0, 8, 0, 56},
		{0xffffffffffffff00, 0, 0, 8, 56},
		{0x00ffffffffffff00, 0, 8, 8, 48},
		{0xffffffff00000000, 0, 0, 32, 32},
		{0x00000000f0000000, 0, 32, 28, 4},
		{0x0000123456780000, 0, 19, 19, 13},
		{0x4000000000000002, 0, 1, 1, 2},
		{0x7ffffffffffffffe, 0, 1, 1, 62},
		{0x5555555555555555, 0, 1, 0, 32},
		{0xaaaaaaaaaaaaaaaa, 0, 0, 1, 32},
	})
}

func TestPowers(t *testing.T) { layer().TestPowers(t) }

func TestOthersOfOne(t *testing.T) { layer().TestOthersOfOne(t) }

// P19.2

func TestRelations(t *testing.T) {
	layer().TestOrder(t, false, []uint64{0, 1, 1 << 31, 1 << 32, greatest, least, last})
	layer().TestOrder(t, true, []uint64{least, last, 0, 1, 1 << 31, 1 << 32, greatest})
}

func TestSums(t *testing.T) {
	layer().Yields(t, []trial.Operator{trial.Add, trial.Sub, trial.Mul}, [][]uint64{
		{0, 0, 0, 0, 0},
		{0, 1, 1, last, 0},
		{1, 0, 1, 1, 0},
		{1, 1, 2, 0, 1},
		{7, 2, 9, 5, 14},
		{2, 7, 9, minus(5), 14},
		{minus(7), 3, minus(4), minus(10), minus(21)},
		{1000000000000, 1000000, 1000001000000, 999999000000, 1000000000000000000},
		{0x123456789abcdef0, 0xfedcba9876543210, 0x1111111111111100, 0x13579be02468ace0, 0x236d88fe5618cf00},
		// those that leave 2^32 alone
		{0xffffffff, 1, 0x100000000, 0xfffffffe, 0xffffffff},
		{0xffffffff, 0xffffffff, 0x1fffffffe, 0, 0xfffffffe00000001},
		{0x80000000, 2, 0x80000002, 0x7ffffffe, 0x100000000},
		{0x80000000, 0x80000000, 0x100000000, 0, 1 << 62},
		{0x100000000, 0x7fffffff, 0x17fffffff, 0x80000001, 0x7fffffff00000000},
		// at the ends
		{greatest, 1, least, 0x7ffffffffffffffe, greatest},
		{greatest, greatest, 0xfffffffffffffffe, 0, 1},
		{greatest, least, last, last, least},
		{least, least, 0, 0, 0},
		{least, 1, 0x8000000000000001, greatest, least},
		{least, 2, 0x8000000000000002, 0x7ffffffffffffffe, 0},
		{least, 3, 0x8000000000000003, 0x7ffffffffffffffd, least},
		{last, 1, 0, 0xfffffffffffffffe, last},
		{1, last, 0, 2, last},
		{last, last, 0xfffffffffffffffe, 0, 1},
		{last, 2, 1, 0xfffffffffffffffd, 0xfffffffffffffffe},
		{last, 0x100000000, 0xffffffff, 0xfffffffeffffffff, 0xffffffff00000000},
		{0x80000000, 0x100000000, 0x180000000, 0xffffffff80000000, least},
		{0x100000000, 0x100000000, 0x200000000, 0, 0},
		{0x100000001, 0x100000001, 0x200000002, 0, 0x200000001},
		{0xffffffff, 0x100000001, 0x200000000, minus(2), last},
	})
}

func TestDivisions(t *testing.T) {
	layer().Yields(t, []trial.Operator{trial.DivS, trial.RemS, trial.DivU, trial.RemU}, [][]uint64{
		// each pair of signs, with a remainder and without one
		{7, 2, 3, 1, 3, 1},
		{minus(7), 2, minus(3), minus(1), 9223372036854775804, 1},
		{7, minus(2), minus(3), 1, 0, 7},
		{minus(7), minus(2), 3, minus(1), 0, minus(7)},
		{8, 2, 4, 0, 4, 0},
		{minus(8), 2, minus(4), 0, 9223372036854775804, 0},
		{8, minus(2), minus(4), 0, 0, 8},
		{minus(8), minus(2), 4, 0, 0, minus(8)},
		// a smaller number by a larger one
		{0, 5, 0, 0, 0, 0},
		{0, minus(5), 0, 0, 0, 0},
		{3, 5, 0, 3, 0, 3},
		{minus(3), 5, 0, minus(3), 3689348814741910322, 3},
		{3, minus(5), 0, 3, 0, 3},
		{minus(3), minus(5), 0, minus(3), 1, 2},
		{minus(5), minus(3), 1, minus(2), 0, minus(5)},
		{greatest, least, 0, greatest, 0, greatest},
		// by 1 and by -1
		{5, 1, 5, 0, 5, 0},
		{minus(5), 1, minus(5), 0, minus(5), 0},
		{greatest, 1, greatest, 0, greatest, 0},
		{least, 1, least, 0, least, 0},
		{last, 1, last, 0, last, 0},
		{0, last, 0, 0, 0, 0},
		{5, last, minus(5), 0, 0, 5},
		{minus(5), last, 5, 0, 0, minus(5)},
		{greatest, last, minus(greatest), 0, 0, greatest},
		{minus(greatest), last, greatest, 0, 0, minus(greatest)},
		{last, last, 1, 0, 1, 0},
		// about 2^31 and 2^32, where nothing ends
		{1 << 31, 0xffffffff, 0, 1 << 31, 0, 1 << 31},
		{minus(1 << 31), last, 1 << 31, 0, 0, minus(1 << 31)},
		{minus(1 << 32), 7, minus(613566756), minus(4), 2635249152773512045, 5},
		{1000000000000000000, 1000000007, 999999993, 49, 999999993, 49},
		{minus(1000000000000000000), 1000000007, minus(999999993), minus(49), 17446743951, 582343959},
		{last, 1 << 32, 0, last, 0xffffffff, 0xffffffff},
		// at the ends
		{least, 2, minus(1 << 62), 0, 1 << 62, 0},
		{least, minus(2), 1 << 62, 0, 0, least},
		{least, 3, minus(3074457345618258602), minus(2), 3074457345618258602, 2},
		{least, 10, minus(922337203685477580), minus(8), 922337203685477580, 8},
		{least, least, 1, 0, 1, 0},
		{last, least, 0, last, 1, greatest},
		{last, greatest, 0, last, 2, 1},
		{last, 2, 0, last, greatest, 1},
		{last, 10, 0, last, 1844674407370955161, 5},
	})
}

func TestDivisionsByZero(t *testing.T) { layer().TestDivisionsByZero(t) }

func TestOverflow(t *testing.T) { layer().TestOverflow(t) }

func TestBits(t *testing.T) {
	layer().TestBits(t)
	layer().Yields(t, []trial.Operator{trial.And, trial.Or, trial.Xor}, [][]uint64{
		{0xff00ff00ff00ff00, 0x0ff00ff00ff00ff0, 0x0f000f000f000f00, 0xfff0fff0fff0fff0, 0xf0f0f0f0f0f0f0f0},
	})
}

func TestShifts(t *testing.T) {
	const low, high = 0x123456789abcdef1, 0x923456789abcdef0 // without the sign bit, and with it
	layer().Yields(t, []trial.Operator{trial.Shl, trial.ShrS, trial.ShrU, trial.Rotl, trial.Rotr}, [][]uint64{
		{low, 0, low, low, low, low, low},
		{low, 1, 0x2468acf13579bde2, 0x091a2b3c4d5e6f78, 0x091a2b3c4d5e6f78, 0x2468acf13579bde2, 0x891a2b3c4d5e6f78},
		{low, 4, 0x23456789abcdef10, 0x0123456789abcdef, 0x0123456789abcdef, 0x23456789abcdef11, 0x1123456789abcdef},
		{low, 31, 0x4d5e6f7880000000, 0x2468acf1, 0x2468acf1, 0x4d5e6f78891a2b3c, 0x3579bde22468acf1},
		{low, 32, 0x9abcdef100000000, 0x12345678, 0x12345678, 0x9abcdef112345678, 0x9abcdef112345678},
		{low, 33, 0x3579bde200000000, 0x091a2b3c, 0x091a2b3c, 0x3579bde22468acf1, 0x4d5e6f78891a2b3c},
		{low, 63, least, 0, 0, 0x891a2b3c4d5e6f78, 0x2468acf13579bde2},
		{low, 64, low, low, low, low, low},
		{low, 65, 0x2468acf13579bde2, 0x091a2b3c4d5e6f78, 0x091a2b3c4d5e6f78, 0x2468acf13579bde2, 0x891a2b3c4d5e6f78},
		{low, 1 << 32, low, low, low, low, low},
		{low, least, low, low, low, low, low},
		{low, last, least, 0, 0, 0x891a2b3c4d5e6f78, 0x2468acf13579bde2},
		{high, 0, high, high, high, high, high},
		{high, 1, 0x2468acf13579bde0, 0xc91a2b3c4d5e6f78, 0x491a2b3c4d5e6f78, 0x2468acf13579bde1, 0x491a2b3c4d5e6f78},
		{high, 4, 0x23456789abcdef00, 0xf923456789abcdef, 0x0923456789abcdef, 0x23456789abcdef09, 0x0923456789abcdef},
		{high, 31, 0x4d5e6f7800000000, 0xffffffff2468acf1, 0x12468acf1, 0x4d5e6f78491a2b3c, 0x3579bde12468acf1},
		{high, 32, 0x9abcdef000000000, 0xffffffff92345678, 0x92345678, 0x9abcdef092345678, 0x9abcdef092345678},
		{high, 33, 0x3579bde000000000, 0xffffffffc91a2b3c, 0x491a2b3c, 0x3579bde12468acf1, 0x4d5e6f78491a2b3c},
		{high, 63, 0, last, 1, 0x491a2b3c4d5e6f78, 0x2468acf13579bde1},
		{high, 64, high, high, high, high, high},
		{high, 65, 0x2468acf13579bde0, 0xc91a2b3c4d5e6f78, 0x491a2b3c4d5e6f78, 0x2468acf13579bde1, 0x491a2b3c4d5e6f78},
		{high, 1 << 32, high, high, high, high, high},
		{high, least, high, high, high, high, high},
		{high, last, 0, last, 1, 0x491a2b3c4d5e6f78, 0x2468acf13579bde1},
		{1, 63, least, 0, 0, least, 2},
		{1, 32, 1 << 32, 0, 0, 1 << 32, 1 << 32},
		{least, 63, 0, last, 1, 1 << 62, 1},
		{1 << 31, 31, 1 << 62, 1, 1, 1 << 62, 1},
		{greatest, 62, 0xc000000000000000, 1, 1, 0xdfffffffffffffff, 0xfffffffffffffffd},
		{last, 1, 0xfffffffffffffffe, last, greatest, last, last},
		{0, 5, 0, 0, 0, 0, 0},
	})
}

func TestModel(t *testing.T) {
	for o := range trial.Operators {
		t.Run("", func(t *testing.T) {
			t.Parallel()
			layer().TestModel(t, o)
		})
	}
}

func TestOthersOfTwo(t *testing.T) { layer().TestOthersOfTwo(t) }

// P19.3

func TestUndone(t *testing.T) { layer().TestUndone(t) }

func TestQuotientTimes(t *testing.T) { layer().TestQuotientTimes(t) }

func TestOneOfThree(t *testing.T) { layer().TestOneOfThree(t) }

// The chapter's example.

func TestExample(t *testing.T) {
	layer().Yields(t, []trial.Operator{trial.DivS, trial.RemS}, [][]uint64{{minus(7), 2, minus(3), minus(1)}})
}

// P1

func TestAllOpcodes(t *testing.T) { layer().TestAllOpcodes(t) }

// P2

func TestCalls(t *testing.T) { layer().TestCalls(t) }
