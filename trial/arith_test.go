package trial_test

import (
	"testing"

	"creel/api"
	"creel/arith"
	"creel/trial"
)

type arith32 = trial.Arith[uint32]

// plain has the opcodes of the operators in a row, behind one that is none.
func plain() arith32 {
	l := arith32{
		Bits: 32,
		One:  func(op byte, a uint32) (uint32, bool) { return arith.One(arith.Op(op), a) },
		Two:  func(op byte, a, b uint32) (uint32, api.Errno) { return arith.Two(arith.Op(op), a, b) },
	}
	for o := range l.Ops {
		l.Ops[o] = byte(o) + 1
	}
	return l
}

// spoilOne has something else for an operator and a number.
func spoilOne(op, a, v uint32, found bool) arith32 {
	l := plain()
	l.One = func(op2 byte, a2 uint32) (uint32, bool) {
		if uint32(op2) == op && a2 == a {
			return v, found
		}
		return plain().One(op2, a2)
	}
	return l
}

// spoilTwo has something else for an operator and two numbers.
func spoilTwo(op, a, b, v uint32, e api.Errno) arith32 {
	l := plain()
	l.Two = func(op2 byte, a2, b2 uint32) (uint32, api.Errno) {
		if uint32(op2) == op && a2 == a && b2 == b {
			return v, e
		}
		return plain().Two(op2, a2, b2)
	}
	return l
}

func testModel(o trial.Operator) func(l arith32, t trial.T) {
	return func(l arith32, t trial.T) { l.TestModel(t, o) }
}

func testOrder(signed bool, list ...uint32) func(l arith32, t trial.T) {
	return func(l arith32, t trial.T) { l.TestOrder(t, signed, list) }
}

func testYields(o trial.Operator, row ...uint32) func(l arith32, t trial.T) {
	return func(l arith32, t trial.T) { l.Yields(t, []trial.Operator{o}, [][]uint32{row}) }
}

// forgetful has another result of a sum when it is asked for it again.
func forgetful() arith32 {
	l, before := plain(), uint32(1)
	l.Two = func(op byte, a, b uint32) (uint32, api.Errno) {
		v, e := plain().Two(op, a, b)
		if op != l.Ops[trial.Add] {
			before = 0
		} else if e == 0 {
			v += before
			before++
		}
		return v, e
	}
	return l
}

// TestArith spoils one thing at a time, which a test finds that does not find anything in what is right.
func TestArith(t *testing.T) {
	const greatest, least, last = 1<<31 - 1, 1 << 31, 1<<32 - 1
	const (
		eqz, eq, ltS, ltU, leU, geS                   = 1, 2, 4, 5, 9, 10
		clz, ctz, popcnt, add, sub, mul               = 12, 13, 14, 15, 16, 17
		divS, divU, remS, remU, and, xor, shl, rotr   = 18, 19, 20, 21, 22, 24, 25, 29
		none, ok, errOp, divided, overflow, firstNone = 0, 0, 9, 61, 62, 30
	)
	for what, x := range map[string]struct {
		finds  func(l arith32, t trial.T)
		spoilt arith32
	}{
		"a number of zero bits":      {testYields(trial.Clz, 5, 29), spoilOne(clz, 5, 28, true)},
		"no number of zero bits":     {testYields(trial.Clz, 5, 29), spoilOne(clz, 5, 29, false)},
		"a product":                  {testYields(trial.Mul, 5, 6, 30), spoilTwo(mul, 5, 6, 29, ok)},
		"a product and an error":     {testYields(trial.Mul, 5, 6, 30), spoilTwo(mul, 5, 6, 30, overflow)},
		"is 0 0?":                    {arith32.TestPowers, spoilOne(eqz, 0, 0, true)},
		"is 2^31 0?":                 {arith32.TestPowers, spoilOne(eqz, least, 1, true)},
		"bits before none":           {arith32.TestPowers, spoilOne(clz, 0, 31, true)},
		"bits behind none":           {arith32.TestPowers, spoilOne(ctz, 0, 64, true)},
		"bits behind 2^31":           {arith32.TestPowers, spoilOne(ctz, least, 30, true)},
		"the bits of 2^31 - 1":       {arith32.TestPowers, spoilOne(popcnt, greatest, 30, true)},
		"bits before 10":             {testModel(trial.Clz), spoilOne(clz, 10, 29, true)},
		"the bits of -1":             {testModel(trial.Popcnt), spoilOne(popcnt, last, 31, true)},
		"the bits of a pattern":      {testModel(trial.Popcnt), spoilOne(popcnt, 0x12121212, 9, true)},
		"a product of ends":          {testModel(trial.Mul), spoilTwo(mul, last, least, 0, ok)},
		"a quotient of ends":         {testModel(trial.DivS), spoilTwo(divS, least, last, least, ok)},
		"a quotient by 0":            {testModel(trial.DivU), spoilTwo(divU, 7, 0, last, ok)},
		"a shift by 33":              {testModel(trial.Shl), spoilTwo(shl, 1, 33, 0, ok)},
		"0 below 0":                  {testModel(trial.LtS), spoilTwo(ltS, 0, 0, 1, ok)},
		"a sum for one number":       {arith32.TestOthersOfOne, spoilOne(add, 1, 0, true)},
		"another with one number":    {arith32.TestOthersOfOne, spoilOne(200, 1, 1, false)},
		"zero bits for two":          {arith32.TestOthersOfTwo, spoilTwo(clz, 1, 1, 0, ok)},
		"another with two numbers":   {arith32.TestOthersOfTwo, spoilTwo(200, 32, last, 0, ok)},
		"another error":              {arith32.TestOthersOfTwo, spoilTwo(200, 1, 0, 0, divided)},
		"a number beside an error":   {arith32.TestOthersOfTwo, spoilTwo(200, 1, 0, 1, errOp)},
		"2^31 below 1":               {testOrder(false, 1, least), spoilTwo(ltU, least, 1, 1, ok)},
		"1 is 1":                     {testOrder(false, 1, least), spoilTwo(eq, 1, 1, 0, ok)},
		"1 above -2^31":              {testOrder(true, least, 1), spoilTwo(geS, 1, least, 0, ok)},
		"an end by 0":                {arith32.TestDivisionsByZero, spoilTwo(remS, least, 0, 0, overflow)},
		"0 by 0":                     {arith32.TestDivisionsByZero, spoilTwo(remU, 0, 0, 0, ok)},
		"a number beside a 0":        {arith32.TestDivisionsByZero, spoilTwo(remU, 1, 0, 1, divided)},
		"no overflow":                {arith32.TestOverflow, spoilTwo(divS, least, last, least, ok)},
		"a number beside it":         {arith32.TestOverflow, spoilTwo(divS, least, last, least, overflow)},
		"another overflow":           {arith32.TestOverflow, spoilTwo(divS, greatest, last, 0, overflow)},
		"overflow with no sign":      {arith32.TestOverflow, spoilTwo(divU, least, last, 0, overflow)},
		"overflow with a rest":       {arith32.TestOverflow, spoilTwo(remS, least, last, 0, overflow)},
		"a bit of both":              {arith32.TestBits, spoilTwo(and, least, least, 0, ok)},
		"no bit of both":             {arith32.TestBits, spoilTwo(and, 0, least, least, ok)},
		"a bit of one":               {arith32.TestBits, spoilTwo(xor, last, 1, last, ok)},
		"1 less 1":                   {arith32.TestUndone, spoilTwo(sub, 1, 1, 1, ok)},
		"a number turned":            {arith32.TestUndone, spoilTwo(rotr, last, 5, last-1, ok)},
		"a rest that is too great":   {arith32.TestQuotientTimes, spoilTwo(remU, 7, 7, 7, ok)},
		"a rest of another sign":     {arith32.TestQuotientTimes, spoilTwo(remS, last-6, 10, 3, ok)},
		"a quotient that is too low": {arith32.TestQuotientTimes, spoilTwo(divU, 8, 8, 0, ok)},
		"neither below nor above":    {arith32.TestOneOfThree, spoilTwo(ltU, 0, 1, 0, ok)},
		"0 at most 0":                {arith32.TestOneOfThree, spoilTwo(leU, 0, 0, 0, ok)},
		"what is no operator":        {arith32.TestAllOpcodes, spoilTwo(none, last, last, 0, ok)},
		"what is none behind them":   {arith32.TestAllOpcodes, spoilOne(firstNone, 0, 0, true)},
		"a sum of ends":              {arith32.TestAllOpcodes, spoilTwo(add, last, last, last, ok)},
		"a result that changes":      {arith32.TestCalls, forgetful()},
	} {
		var right, found errors
		if x.finds(plain(), &right); right != 0 {
			t.Errorf("%s: %d errors in what is right", what, right)
		}
		if x.finds(x.spoilt, &found); found == 0 {
			t.Errorf("%s: not found", what)
		}
	}
}

// TestOneNumber has numbers of few bits, of which all are known.
func TestOneNumber(t *testing.T) {
	for v, want := range [][4]uint64{{1, 3, 3, 0}, {0, 2, 0, 1}, {0, 1, 1, 1}, {0, 1, 0, 2}, {0, 0, 2, 1}, {0, 0, 0, 2}, {0, 0, 1, 2}, {0, 0, 0, 3}} {
		for i, o := range []trial.Operator{trial.Eqz, trial.Clz, trial.Ctz, trial.Popcnt} {
			if n, found := trial.OneNumber(o, uint64(v), 3); n != want[i] || !found {
				t.Errorf("%d of %d: %d, %t, want %d", o, v, n, found, want[i])
			}
		}
	}
	for _, o := range []trial.Operator{-1, trial.Eq, trial.GeU, trial.Add, trial.Rotr, trial.Operators} {
		if n, found := trial.OneNumber(o, 1, 3); n != 0 || found {
			t.Errorf("%d of 1: %d, %t", o, n, found)
		}
	}
}

// TestTwoNumbers has all numbers of four bits, for which an int has room whatever is done with them.
func TestTwoNumbers(t *testing.T) {
	for a := range 16 {
		for b := range 16 {
			s, u := a-a&8*2, b-b&8*2 // as signed ones
			places := b % 4
			wide := a | a<<4 // turned, its other half comes from the other end
			want := map[trial.Operator]int{
				trial.Add: a + b, trial.Sub: a - b, trial.Mul: a * b,
				trial.And: a & b, trial.Or: a | b, trial.Xor: a ^ b,
				trial.Shl: a << places, trial.ShrS: s >> places, trial.ShrU: a >> places,
				trial.Rotl: wide << places >> 4, trial.Rotr: wide >> places,
				trial.Eq: bit(a == b), trial.Ne: bit(a != b),
				trial.LtS: bit(s < u), trial.GtS: bit(s > u), trial.LeS: bit(s <= u), trial.GeS: bit(s >= u),
				trial.LtU: bit(a < b), trial.GtU: bit(a > b), trial.LeU: bit(a <= b), trial.GeU: bit(a >= b),
			}
			why := map[trial.Operator]api.Errno{trial.DivS: 61, trial.DivU: 61, trial.RemS: 61, trial.RemU: 61, trial.Eqz: 9, trial.Clz: 9, -1: 9}
			if b != 0 {
				why = map[trial.Operator]api.Errno{trial.Ctz: 9, trial.Popcnt: 9, trial.Operators: 9}
				want[trial.DivU], want[trial.RemU], want[trial.RemS] = a/b, a%b, s%u
				if want[trial.DivS] = s / u; s/u == 8 {
					why[trial.DivS] = 62
					delete(want, trial.DivS)
				}
			}
			for o, v := range want {
				if n, e := trial.TwoNumbers(o, uint64(a), uint64(b), 4); n != uint64(v&15) || e != 0 {
					t.Errorf("%d of %d and %d: %d, %d, want %d", o, a, b, n, e, v&15)
				}
			}
			for o, e := range why {
				if n, got := trial.TwoNumbers(o, uint64(a), uint64(b), 4); n != 0 || got != e {
					t.Errorf("%d of %d and %d: %d, %d, want %d", o, a, b, n, got, e)
				}
			}
		}
	}
}

func bit(holds bool) int {
	if holds {
		return 1
	}
	return 0
}
