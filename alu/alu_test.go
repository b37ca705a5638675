package alu_test

import (
	"testing"

	"creel/alu"
	"creel/trial"
)

// The opcodes and the results are written from the chapter with numbers of their own.

func layer() trial.Arith[uint32] {
	return trial.Arith[uint32]{
		Bits: 32,
		Ops: [trial.Operators]byte{
			trial.Eqz: 0x45, trial.Eq: 0x46, trial.Ne: 0x47,
			trial.LtS: 0x48, trial.LtU: 0x49, trial.GtS: 0x4a, trial.GtU: 0x4b,
			trial.LeS: 0x4c, trial.LeU: 0x4d, trial.GeS: 0x4e, trial.GeU: 0x4f,
			trial.Clz: 0x67, trial.Ctz: 0x68, trial.Popcnt: 0x69,
			trial.Add: 0x6a, trial.Sub: 0x6b, trial.Mul: 0x6c,
			trial.DivS: 0x6d, trial.DivU: 0x6e, trial.RemS: 0x6f, trial.RemU: 0x70,
			trial.And: 0x71, trial.Or: 0x72, trial.Xor: 0x73,
			trial.Shl: 0x74, trial.ShrS: 0x75, trial.ShrU: 0x76, trial.Rotl: 0x77, trial.Rotr: 0x78,
		},
		One: alu.One,
		Two: alu.Two,
	}
}

// Numbers at the ends: as signed ones, greatest is followed by least, and last is -1.
const (
	greatest = 1<<31 - 1
	least    = 1 << 31
	last     = 1<<32 - 1
)

// minus is the number that stands for -n.
func minus(n uint32) uint32 { return last - n + 1 }

// P18.1

func TestOne(t *testing.T) {
	layer().Yields(t, []trial.Operator{trial.Eqz, trial.Clz, trial.Ctz, trial.Popcnt}, [][]uint32{
		{0, 1, 32, 32, 0},
		{1, 0, 31, 0, 1},
		{2, 0, 30, 1, 1},
		{3, 0, 30, 0, 2},
		{greatest, 0, 1, 0, 31},
		{least, 0, 0, 31, 1},
		{last, 0, 0, 0, 32},
		{0x80000001, 0, 0, 0, 2},
		{0x00ffffff, 0, 8, 0, 24},
		{0xffffff00, 0, 0, 8, 24},
		{0x00ffff00, 0, 8, 8, 16},
		{0x00012300, 0, 15, 8, 4},
		{0x40000002, 0, 1, 1, 2},
		{0x7ffffffe, 0, 1, 1, 30},
		{0x55555555, 0, 1, 0, 16},
		{0xaaaaaaaa, 0, 0, 1, 16},
	})
}

func TestPowers(t *testing.T) { layer().TestPowers(t) }

func TestOthersOfOne(t *testing.T) { layer().TestOthersOfOne(t) }

// P18.2

func TestRelations(t *testing.T) {
	layer().TestOrder(t, false, []uint32{0, 1, greatest, least, last})
	layer().TestOrder(t, true, []uint32{least, last, 0, 1, greatest})
}

func TestSums(t *testing.T) {
	layer().Yields(t, []trial.Operator{trial.Add, trial.Sub, trial.Mul}, [][]uint32{
		{0, 0, 0, 0, 0},
		{0, 1, 1, last, 0},
		{1, 0, 1, 1, 0},
		{1, 1, 2, 0, 1},
		{7, 2, 9, 5, 14},
		{2, 7, 9, minus(5), 14},
		{1000000, 1000, 1001000, 999000, 1000000000},
		{greatest, 1, least, 0x7ffffffe, greatest},
		{greatest, greatest, 0xfffffffe, 0, 1},
		{greatest, least, last, last, least},
		{least, least, 0, 0, 0},
		{least, 1, 0x80000001, greatest, least},
		{least, 2, 0x80000002, 0x7ffffffe, 0},
		{least, 3, 0x80000003, 0x7ffffffd, least},
		{last, 1, 0, 0xfffffffe, last},
		{1, last, 0, 2, last},
		{last, last, 0xfffffffe, 0, 1},
		{last, 2, 1, 0xfffffffd, 0xfffffffe},
		{minus(7), 3, minus(4), minus(10), minus(21)},
		{0x10000, 0x10000, 0x20000, 0, 0},
		{0x10001, 0x10001, 0x20002, 0, 0x20001},
		{0xffff, 0x10001, 0x20000, minus(2), last},
		{0x12345678, 0x9abcdef0, 0xacf13568, 0x77777788, 0x242d2080},
	})
}

func TestDivisions(t *testing.T) {
	layer().Yields(t, []trial.Operator{trial.DivS, trial.RemS, trial.DivU, trial.RemU}, [][]uint32{
		// each pair of signs, with a remainder and without one
		{7, 2, 3, 1, 3, 1},
		{minus(7), 2, minus(3), minus(1), 2147483644, 1},
		{7, minus(2), minus(3), 1, 0, 7},
		{minus(7), minus(2), 3, minus(1), 0, minus(7)},
		{8, 2, 4, 0, 4, 0},
		{minus(8), 2, minus(4), 0, 2147483644, 0},
		{8, minus(2), minus(4), 0, 0, 8},
		{minus(8), minus(2), 4, 0, 0, minus(8)},
		// a smaller number by a larger one
		{0, 5, 0, 0, 0, 0},
		{0, minus(5), 0, 0, 0, 0},
		{3, 5, 0, 3, 0, 3},
		{minus(3), 5, 0, minus(3), 858993458, 3},
		{3, minus(5), 0, 3, 0, 3},
		{minus(3), minus(5), 0, minus(3), 1, 2},
		{minus(5), minus(3), 1, minus(2), 0, minus(5)},
		{greatest, least, 0, greatest, 0, greatest},
		// by 1 and by -1
		{5, 1, 5, 0, 5, 0},
		{minus(5), 1, minus(5), 0, minus(5), 0},
		{greatest, 1, greatest, 0, greatest, 0},
		{least, 1, least, 0, least, 0},
		{last, 1, last, 0, last, 0},
		{0, last, 0, 0, 0, 0},
		{5, last, minus(5), 0, 0, 5},
		{minus(5), last, 5, 0, 0, minus(5)},
		{greatest, last, minus(greatest), 0, 0, greatest},
		{minus(greatest), last, greatest, 0, 0, minus(greatest)},
		{last, last, 1, 0, 1, 0},
		// at the ends
		{least, 2, minus(1 << 30), 0, 1 << 30, 0},
		{least, minus(2), 1 << 30, 0, 0, least},
		{least, 3, minus(715827882), minus(2), 715827882, 2},
		{least, least, 1, 0, 1, 0},
		{last, least, 0, last, 1, greatest},
		{last, greatest, 0, last, 2, 1},
		{last, 2, 0, last, greatest, 1},
	})
}

func TestDivisionsByZero(t *testing.T) { layer().TestDivisionsByZero(t) }

func TestOverflow(t *testing.T) { layer().TestOverflow(t) }

func TestBits(t *testing.T) {
	layer().TestBits(t)
	layer().Yields(t, []trial.Operator{trial.And, trial.Or, trial.Xor}, [][]uint32{
		{0xff00ff00, 0x0ff00ff0, 0x0f000f00, 0xfff0fff0, 0xf0f0f0f0},
	})
}

func TestShifts(t *testing.T) {
	const low, high = 0x12345679, 0x92345678 // without the sign bit, and with it
	layer().Yields(t, []trial.Operator{trial.Shl, trial.ShrS, trial.ShrU, trial.Rotl, trial.Rotr}, [][]uint32{
		{low, 0, low, low, low, low, low},
		{low, 1, 0x2468acf2, 0x091a2b3c, 0x091a2b3c, 0x2468acf2, 0x891a2b3c},
		{low, 4, 0x23456790, 0x01234567, 0x01234567, 0x23456791, 0x91234567},
		{low, 31, 0x80000000, 0, 0, 0x891a2b3c, 0x2468acf2},
		{low, 32, low, low, low, low, low},
		{low, 33, 0x2468acf2, 0x091a2b3c, 0x091a2b3c, 0x2468acf2, 0x891a2b3c},
		{low, least, low, low, low, low, low},
		{low, last, 0x80000000, 0, 0, 0x891a2b3c, 0x2468acf2},
		{high, 0, high, high, high, high, high},
		{high, 1, 0x2468acf0, 0xc91a2b3c, 0x491a2b3c, 0x2468acf1, 0x491a2b3c},
		{high, 4, 0x23456780, 0xf9234567, 0x09234567, 0x23456789, 0x89234567},
		{high, 31, 0, last, 1, 0x491a2b3c, 0x2468acf1},
		{high, 32, high, high, high, high, high},
		{high, 33, 0x2468acf0, 0xc91a2b3c, 0x491a2b3c, 0x2468acf1, 0x491a2b3c},
		{high, least, high, high, high, high, high},
		{high, last, 0, last, 1, 0x491a2b3c, 0x2468acf1},
		{1, 31, least, 0, 0, least, 2},
		{least, 31, 0, last, 1, 1 << 30, 1},
		{greatest, 30, 0xc0000000, 1, 1, 0xdfffffff, 0xfffffffd},
		{last, 1, 0xfffffffe, last, greatest, last, last},
		{0, 5, 0, 0, 0, 0, 0},
	})
}

func TestModel(t *testing.T) {
	for o := range trial.Operators {
		t.Run("", func(t *testing.T) {
			t.Parallel()
			layer().TestModel(t, o)
		})
	}
}

func TestOthersOfTwo(t *testing.T) { layer().TestOthersOfTwo(t) }

// P18.3

func TestUndone(t *testing.T) { layer().TestUndone(t) }

func TestQuotientTimes(t *testing.T) { layer().TestQuotientTimes(t) }

func TestOneOfThree(t *testing.T) { layer().TestOneOfThree(t) }

// The chapter's example.

func TestExample(t *testing.T) {
	layer().Yields(t, []trial.Operator{trial.DivS, trial.RemS}, [][]uint32{{minus(7), 2, minus(3), minus(1)}})
}

// P1

func TestAllOpcodes(t *testing.T) { layer().TestAllOpcodes(t) }

// P2

func TestCalls(t *testing.T) { layer().TestCalls(t) }
