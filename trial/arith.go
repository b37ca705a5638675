package trial

import (
	"slices"

	"creel/api"
)

// Arith is a layer that has the operators for numbers of one type.
type Arith[N uint32 | uint64] struct {
	Bits int             // of a number
	Ops  [Operators]byte // the opcodes
	One  func(op byte, a N) (N, bool)
	Two  func(op byte, a, b N) (N, api.Errno)
}

// last is the greatest number, and -1; least is the least signed one, and behind the greatest one of these.
func (l Arith[N]) last() N  { return ^N(0) }
func (l Arith[N]) least() N { return 1 << (l.Bits - 1) }

func (l Arith[N]) negative(n N) bool { return n >= l.least() }

func (l Arith[N]) magnitude(n N) N {
	if l.negative(n) {
		return -n
	}
	return n
}

// edges are numbers about the powers of two and their negatives, and some patterns of bits.
func (l Arith[N]) edges() []N {
	ones := l.last()
	list := []N{7, 10, -N(7), -N(10), ones / 3, ones / 3 * 2, ones / 255 * 18, ones >> 4 &^ 15, ones&^(ones>>9) | 127}
	for k := range l.Bits {
		p := N(1) << k
		list = append(list, p-1, p, -p)
		if k < 8 || k%8 <= 1 || k >= l.Bits-2 {
			list = append(list, p+1, -p-1, -p+1)
		}
	}
	slices.Sort(list)
	return slices.Compact(list)
}

// byChance calls f with numbers by chance, some of few bits.
func (l Arith[N]) byChance(n int, f func(a, b N)) {
	next := Chance(uint32(l.Bits))
	number := func() N {
		v := N(0)
		for range l.Bits / 16 {
			v = v<<16 | N(next(1<<16))
		}
		return v >> next(l.Bits)
	}
	for range n {
		f(number(), number())
	}
}

// inPairs calls f with each two edges, and with numbers by chance.
func (l Arith[N]) inPairs(f func(a, b N)) {
	list := l.edges()
	for _, a := range list {
		for _, b := range list {
			f(a, b)
		}
	}
	l.byChance(10000, f)
}

func (l Arith[N]) yieldsOne(t T, o Operator, a, want N) {
	t.Helper()
	if v, found := l.One(l.Ops[o], a); v != want || !found {
		t.Errorf("One(%x, %x): %x, %t, want %x", l.Ops[o], a, v, found, want)
	}
}

func (l Arith[N]) yieldsTwo(t T, o Operator, a, b, want N) {
	t.Helper()
	l.answers(t, l.Ops[o], a, b, want, 0)
}

// fails checks that there is an error, and no number beside it.
func (l Arith[N]) fails(t T, op byte, a, b N, why api.Errno) {
	t.Helper()
	l.answers(t, op, a, b, 0, why)
}

func (l Arith[N]) answers(t T, op byte, a, b, want N, why api.Errno) {
	t.Helper()
	if v, e := l.Two(op, a, b); v != want || e != why {
		t.Errorf("Two(%x, %x, %x): %x, %d, want %x, %d", op, a, b, v, e, want, why)
	}
}

// two is the result of an operator that has one.
func (l Arith[N]) two(t T, o Operator, a, b N) N {
	t.Helper()
	v, e := l.Two(l.Ops[o], a, b)
	if e != 0 {
		t.Errorf("Two(%x, %x, %x): %d", l.Ops[o], a, b, e)
	}
	return v
}

// Yields checks rows of what operators yield: the number or the two numbers, and then what each operator makes of them.
func (l Arith[N]) Yields(t T, ops []Operator, rows [][]N) {
	t.Helper()
	for _, row := range rows {
		given := row[:len(row)-len(ops)]
		for i, o := range ops {
			want := row[len(given)+i]
			if len(given) == 1 {
				l.yieldsOne(t, o, given[0], want)
			} else {
				l.yieldsTwo(t, o, given[0], given[1], want)
			}
		}
	}
}

// TestPowers has the operators of one number for each power of two, and for each less one.
func (l Arith[N]) TestPowers(t T) {
	t.Helper()
	bits := N(l.Bits)
	for i := range l.Bits {
		k, p := N(i), N(1)<<i
		l.yieldsOne(t, Eqz, p, 0)
		l.yieldsOne(t, Clz, p, bits-1-k)
		l.yieldsOne(t, Ctz, p, k)
		l.yieldsOne(t, Popcnt, p, 1)
		l.yieldsOne(t, Eqz, p-1, N(truth(k == 0)))
		l.yieldsOne(t, Clz, p-1, bits-k)
		l.yieldsOne(t, Ctz, p-1, bits*N(truth(k == 0)))
		l.yieldsOne(t, Popcnt, p-1, k)
	}
}

// TestModel holds an operator against the model.
func (l Arith[N]) TestModel(t T, o Operator) {
	t.Helper()
	if !o.unary() {
		l.inPairs(func(a, b N) { l.agreesOnTwo(t, l.Ops[o], a, b) })
		return
	}
	for _, a := range l.edges() {
		l.agreesOnOne(t, l.Ops[o], a)
	}
	l.byChance(5000, func(a, _ N) { l.agreesOnOne(t, l.Ops[o], a) })
}

// operator is that of an opcode, or none.
func (l Arith[N]) operator(op byte) Operator {
	return Operator(slices.Index(l.Ops[:], op))
}

func (l Arith[N]) agreesOnOne(t T, op byte, a N) {
	t.Helper()
	v, found := l.One(op, a)
	if want, wanted := OneNumber(l.operator(op), uint64(a), l.Bits); v != N(want) || found != wanted {
		t.Errorf("One(%x, %x): %x, %t, want %x, %t", op, a, v, found, want, wanted)
	}
}

func (l Arith[N]) agreesOnTwo(t T, op byte, a, b N) {
	t.Helper()
	want, why := TwoNumbers(l.operator(op), uint64(a), uint64(b), l.Bits)
	l.answers(t, op, a, b, N(want), why)
}

// TestAllOpcodes has every byte as one.
func (l Arith[N]) TestAllOpcodes(t T) {
	t.Helper()
	bits, least, last := N(l.Bits), l.least(), l.last()
	list := []N{0, 1, 2, bits - 1, bits, bits + 1, least - 2, least - 1, least, least + 1, last - 1, last}
	for op := range 256 {
		for _, a := range list {
			l.agreesOnOne(t, byte(op), a)
			for _, b := range list {
				l.agreesOnTwo(t, byte(op), a, b)
			}
		}
	}
}

// TestCalls has results that are the same ones whatever is called in between, with errors too.
func (l Arith[N]) TestCalls(t T) {
	t.Helper()
	next := Chance(2)
	list := l.edges()
	number := func() N { return list[next(len(list))] }
	for range 50000 {
		op, a, b := l.Ops[next(len(l.Ops))], number(), number()
		one, found := l.One(op, a)
		two, e := l.Two(op, a, b)
		l.Two(byte(next(256)), number(), number())
		l.Two(l.Ops[DivS], number(), 0)
		l.Two(l.Ops[DivS], l.least(), l.last())
		l.One(byte(next(256)), number())
		l.answers(t, op, a, b, two, e)
		if v, is := l.One(op, a); v != one || is != found {
			t.Errorf("One(%x, %x): %x, %t, and then %x, %t", op, a, one, found, v, is)
		}
	}
}

// others are the opcodes but those of so many numbers.
func (l Arith[N]) others(unary bool) []byte {
	var mine, list []byte
	for o := range Operators {
		if o.unary() == unary {
			mine = append(mine, l.Ops[o])
		}
	}
	for op := range 256 {
		if !slices.Contains(mine, byte(op)) {
			list = append(list, byte(op))
		}
	}
	return list
}

// TestOthersOfOne has the opcodes that are none of one number.
func (l Arith[N]) TestOthersOfOne(t T) {
	t.Helper()
	for _, op := range l.others(true) {
		for _, a := range l.edges() {
			if v, found := l.One(op, a); v != 0 || found {
				t.Errorf("One(%x, %x): %x, %t, want 0, false", op, a, v, found)
			}
		}
	}
}

// TestOthersOfTwo has the opcodes that are none of two numbers.
func (l Arith[N]) TestOthersOfTwo(t T) {
	t.Helper()
	list := []N{0, 1, 2, N(l.Bits) - 1, N(l.Bits), l.least() - 1, l.least(), l.last()}
	for _, op := range l.others(false) {
		for _, a := range list {
			for _, b := range list {
				l.fails(t, op, a, b, 9)
			}
		}
	}
}

// TestOrder has the relations between numbers that rise, as unsigned or as signed ones.
func (l Arith[N]) TestOrder(t T, signed bool, list []N) {
	t.Helper()
	lt, gt, le, ge := LtU, GtU, LeU, GeU
	if signed {
		lt, gt, le, ge = LtS, GtS, LeS, GeS
	}
	for i, a := range list {
		for j, b := range list {
			l.yieldsTwo(t, Eq, a, b, N(truth(i == j)))
			l.yieldsTwo(t, Ne, a, b, N(truth(i != j)))
			l.yieldsTwo(t, lt, a, b, N(truth(i < j)))
			l.yieldsTwo(t, gt, a, b, N(truth(i > j)))
			l.yieldsTwo(t, le, a, b, N(truth(i <= j)))
			l.yieldsTwo(t, ge, a, b, N(truth(i >= j)))
		}
	}
}

// TestDivisionsByZero has them of all edges, and of numbers by chance.
func (l Arith[N]) TestDivisionsByZero(t T) {
	t.Helper()
	check := func(a, _ N) {
		for _, o := range []Operator{DivS, DivU, RemS, RemU} {
			l.fails(t, l.Ops[o], a, 0, 61)
		}
	}
	for _, a := range l.edges() {
		check(a, 0)
	}
	l.byChance(1000, check)
}

// TestOverflow has the only quotient that is too great.
func (l Arith[N]) TestOverflow(t T) {
	t.Helper()
	l.fails(t, l.Ops[DivS], l.least(), l.last(), 62)
	l.yieldsTwo(t, RemS, l.least(), l.last(), 0)
	l.yieldsTwo(t, DivU, l.least(), l.last(), 0)
	l.yieldsTwo(t, RemU, l.least(), l.last(), l.least())
	l.inPairs(func(a, b N) {
		if _, e := l.Two(l.Ops[DivS], a, b); e == 62 && (a != l.least() || b != l.last()) {
			t.Errorf("Two(%x, %x, %x): %d", l.Ops[DivS], a, b, e)
		}
	})
}

// TestBits has each pair of bits at each place, where the bits at the other places are the same ones, or others.
func (l Arith[N]) TestBits(t T) {
	t.Helper()
	for at := range l.Bits {
		others := l.last() &^ (1 << at)
		for _, pair := range [][2]N{{0, 0}, {0, 1}, {1, 0}, {1, 1}} {
			x, y := pair[0], pair[1]
			both, either, one := x*y<<at, max(x, y)<<at, (x+y)%2<<at
			for _, rest := range []N{0, others} {
				a, b := rest|x<<at, rest|y<<at
				l.yieldsTwo(t, And, a, b, rest|both)
				l.yieldsTwo(t, Or, a, b, rest|either)
				l.yieldsTwo(t, Xor, a, b, one)
				b ^= others
				l.yieldsTwo(t, And, a, b, both)
				l.yieldsTwo(t, Or, a, b, others|either)
				l.yieldsTwo(t, Xor, a, b, others|one)
			}
		}
	}
}

// TestUndone has the operators that undo each other.
func (l Arith[N]) TestUndone(t T) {
	t.Helper()
	l.inPairs(func(a, b N) {
		for _, pair := range [][2]Operator{{Add, Sub}, {Sub, Add}, {Rotl, Rotr}, {Rotr, Rotl}} {
			first, second := pair[0], pair[1]
			if v := l.two(t, second, l.two(t, first, a, b), b); v != a {
				t.Errorf("%x of %x and %x, and then %x: %x", l.Ops[first], a, b, l.Ops[second], v)
			}
		}
	})
}

// TestQuotientTimes multiplies quotients, and looks at what is left.
func (l Arith[N]) TestQuotientTimes(t T) {
	t.Helper()
	check := func(div, rem Operator, a, b N) {
		t.Helper()
		quotient, rest := l.two(t, div, a, b), l.two(t, rem, a, b)
		if v := l.two(t, Add, l.two(t, Mul, quotient, b), rest); v != a {
			t.Errorf("%x by %x is %x and leaves %x: together they are %x", a, b, quotient, rest, v)
		}
	}
	l.inPairs(func(a, b N) {
		if b == 0 {
			return
		}
		check(DivU, RemU, a, b)
		if rest := l.two(t, RemU, a, b); rest >= b {
			t.Errorf("%x by %x leaves %x", a, b, rest)
		}
		rest := l.two(t, RemS, a, b)
		if l.magnitude(rest) >= l.magnitude(b) || rest != 0 && l.negative(rest) != l.negative(a) {
			t.Errorf("%x by %x leaves %x, as signed numbers", a, b, rest)
		}
		if a != l.least() || b != l.last() {
			check(DivS, RemS, a, b)
		}
	})
}

// TestOneOfThree finds each two numbers in exactly one of <, = and >.
func (l Arith[N]) TestOneOfThree(t T) {
	t.Helper()
	l.inPairs(func(a, b N) {
		for _, o := range [][4]Operator{{LtU, GtU, LeU, GeU}, {LtS, GtS, LeS, GeS}} {
			below, equal, above := l.two(t, o[0], a, b), l.two(t, Eq, a, b), l.two(t, o[1], a, b)
			if below+equal+above != 1 {
				t.Errorf("%x and %x: below %d, equal %d, above %d", a, b, below, equal, above)
			}
			l.yieldsTwo(t, Ne, a, b, below+above)
			l.yieldsTwo(t, o[2], a, b, below+equal)
			l.yieldsTwo(t, o[3], a, b, above+equal)
			l.yieldsTwo(t, o[1], b, a, below)
		}
	})
}
