package alu_test

import (
	"slices"
	"testing"

	"creel/alu"
	"creel/api"
	"creel/trial"
)

// The opcodes, the errors and the results are written from the chapter with numbers of their own.

const (
	eqz    = 0x45
	eq     = 0x46
	ne     = 0x47
	ltS    = 0x48
	ltU    = 0x49
	gtS    = 0x4a
	gtU    = 0x4b
	leS    = 0x4c
	leU    = 0x4d
	geS    = 0x4e
	geU    = 0x4f
	clz    = 0x67
	ctz    = 0x68
	popcnt = 0x69
	add    = 0x6a
	sub    = 0x6b
	mul    = 0x6c
	divS   = 0x6d
	divU   = 0x6e
	remS   = 0x6f
	remU   = 0x70
	and    = 0x71
	or     = 0x72
	xor    = 0x73
	shl    = 0x74
	shrS   = 0x75
	shrU   = 0x76
	rotl   = 0x77
	rotr   = 0x78
)

const (
	ok       = 0
	errOp    = 9
	divided  = 61 // by 0
	overflow = 62
)

// unary and binary are the operators.
var (
	unary  = []byte{eqz, clz, ctz, popcnt}
	binary = []byte{
		eq, ne, ltS, ltU, gtS, gtU, leS, leU, geS, geU,
		add, sub, mul, divS, divU, remS, remU, and, or, xor, shl, shrS, shrU, rotl, rotr,
	}
)

// Numbers at the ends: as signed ones, greatest is followed by least, and last is -1.
const (
	greatest = 1<<31 - 1
	least    = 1 << 31
	last     = 1<<32 - 1
)

// minus is the number that stands for -n.
func minus(n uint32) uint32 { return last - n + 1 }

func negative(n uint32) bool { return n >= least }

func magnitude(n uint32) uint32 {
	if negative(n) {
		return minus(n)
	}
	return n
}

// edges are numbers about all powers of two and their negatives, and some patterns of bits.
func edges() []uint32 {
	list := []uint32{0x55555555, 0xaaaaaaaa, 0x00ffff00, 0xff0000ff, 0x12345678, 0xfedcba98, 7, 10, minus(7), minus(10)}
	for k := range 32 {
		p := uint32(1) << k
		list = append(list, p-1, p, p+1, minus(p-1), minus(p), minus(p+1))
	}
	slices.Sort(list)
	return slices.Compact(list)
}

// byChance calls f with numbers by chance, some of few bits.
func byChance(n int, f func(a, b uint32)) {
	next := trial.Chance(18)
	number := func() uint32 {
		v := uint32(next(1<<16))<<16 | uint32(next(1<<16))
		return v >> next(32)
	}
	for range n {
		f(number(), number())
	}
}

// inPairs calls f with each two edges, and with numbers by chance.
func inPairs(f func(a, b uint32)) {
	for _, a := range edges() {
		for _, b := range edges() {
			f(a, b)
		}
	}
	byChance(20000, f)
}

func checkOne(t *testing.T, op byte, a, want uint32) {
	t.Helper()
	if v, found := alu.One(op, a); v != want || !found {
		t.Errorf("One(%x, %x): %x, %t, want %x", op, a, v, found, want)
	}
}

// checkNone checks that there is no such unary operator.
func checkNone(t *testing.T, op byte, a uint32) {
	t.Helper()
	if v, found := alu.One(op, a); v != 0 || found {
		t.Errorf("One(%x, %x): %x, %t, want 0, false", op, a, v, found)
	}
}

func checkTwo(t *testing.T, op byte, a, b, want uint32) {
	t.Helper()
	checkBoth(t, op, a, b, want, ok)
}

// checkFails checks that there is an error, and no number beside it.
func checkFails(t *testing.T, op byte, a, b uint32, why api.Errno) {
	t.Helper()
	checkBoth(t, op, a, b, 0, why)
}

func checkBoth(t *testing.T, op byte, a, b, want uint32, why api.Errno) {
	t.Helper()
	if v, e := alu.Two(op, a, b); v != want || e != why {
		t.Errorf("Two(%x, %x, %x): %x, %d, want %x, %d", op, a, b, v, e, want, why)
	}
}

// two is the result of a binary operator that has one.
func two(t *testing.T, op byte, a, b uint32) uint32 {
	t.Helper()
	v, e := alu.Two(op, a, b)
	if e != ok {
		t.Errorf("Two(%x, %x, %x): %d", op, a, b, e)
	}
	return v
}

// The model works bit by bit.

// word is a number's bits, the lowest one first.
type word []byte

func wordOf(v uint32) word {
	w := make(word, 32)
	for i := range w {
		w[i] = byte(v >> i & 1)
	}
	return w
}

func (w word) number() uint32 {
	v := uint32(0)
	for i, bit := range w {
		v |= uint32(bit) << i
	}
	return v
}

func (w word) sign() byte { return w[len(w)-1] }

// bitwise makes each bit of those of two words.
func (w word) bitwise(b word, f func(x, y byte) byte) word {
	list := slices.Clone(w)
	for i := range list {
		list[i] = f(w[i], b[i])
	}
	return list
}

func (w word) not() word {
	return w.bitwise(w, func(x, _ byte) byte { return 1 - x })
}

func (w word) plus(b word, carry byte) word {
	return w.bitwise(b, func(x, y byte) byte {
		sum := x + y + carry
		carry = sum / 2
		return sum % 2
	})
}

func (w word) minus(b word) word { return w.plus(b.not(), 1) }

// up moves the bits to the next higher place, and down to the next lower one.
func (w word) up(fill byte) word   { return append(word{fill}, w[:len(w)-1]...) }
func (w word) down(fill byte) word { return append(slices.Clone(w[1:]), fill) }

func (w word) times(b word) word {
	sum := wordOf(0)
	for _, bit := range b {
		if bit == 1 {
			sum = sum.plus(w, 0)
		}
		w = w.up(0)
	}
	return sum
}

// below compares unsigned numbers: the highest bit that differs decides.
func (w word) below(b word) bool {
	for i, bit := range slices.Backward(w) {
		if bit != b[i] {
			return bit < b[i]
		}
	}
	return false
}

// belowSigned compares signed numbers: of two with the same sign, the bits below decide as they do without one.
func (w word) belowSigned(b word) bool {
	if w.sign() != b.sign() {
		return w.sign() == 1
	}
	return w.below(b)
}

// by divides unsigned numbers, as it is done with paper and pencil.
func (w word) by(b word) (quotient, rest word) {
	quotient, rest = wordOf(0), wordOf(0)
	for i, bit := range slices.Backward(w) {
		over := rest.sign() // what is moved out has not gone
		rest = rest.up(bit)
		if over == 1 || !rest.below(b) {
			rest = rest.minus(b)
			quotient[i] = 1
		}
	}
	return quotient, rest
}

// signed is the number of that magnitude and sign.
func (w word) signed(sign byte) word {
	if sign == 1 {
		return wordOf(0).minus(w)
	}
	return w
}

// bySigned divides the magnitudes of signed numbers.
func (w word) bySigned(b word) (quotient, rest word) {
	quotient, rest = w.signed(w.sign()).by(b.signed(b.sign()))
	return quotient.signed(w.sign() ^ b.sign()), rest.signed(w.sign())
}

// ones counts the one bits.
func (w word) ones() (n uint32) {
	for _, bit := range w {
		n += uint32(bit)
	}
	return n
}

// leading and trailing count the zero bits at the ends.
func (w word) leading() (n uint32) {
	for _, bit := range slices.Backward(w) {
		if bit == 1 {
			break
		}
		n++
	}
	return n
}

func (w word) trailing() (n uint32) {
	for _, bit := range w {
		if bit == 1 {
			break
		}
		n++
	}
	return n
}

// move does a step as often as the lowest five bits of a number tell.
func (w word) move(b word, step func(w word) word) word {
	for i, bit := range b[:5] {
		for range int(bit) << i {
			w = step(w)
		}
	}
	return w
}

func truth(holds bool) uint32 {
	if holds {
		return 1
	}
	return 0
}

func modelOne(op byte, v uint32) (uint32, bool) {
	w := wordOf(v)
	switch op {
	case eqz:
		return truth(w.ones() == 0), true
	case clz:
		return w.leading(), true
	case ctz:
		return w.trailing(), true
	case popcnt:
		return w.ones(), true
	}
	return 0, false
}

func modelTwo(op byte, x, y uint32) (uint32, api.Errno) {
	a, b := wordOf(x), wordOf(y)
	switch op {
	case divS, divU, remS, remU:
		return modelDivide(op, a, b)
	case eq:
		return truth(slices.Equal(a, b)), ok
	case ne:
		return truth(!slices.Equal(a, b)), ok
	case ltS:
		return truth(a.belowSigned(b)), ok
	case ltU:
		return truth(a.below(b)), ok
	case gtS:
		return truth(b.belowSigned(a)), ok
	case gtU:
		return truth(b.below(a)), ok
	case leS:
		return truth(!b.belowSigned(a)), ok
	case leU:
		return truth(!b.below(a)), ok
	case geS:
		return truth(!a.belowSigned(b)), ok
	case geU:
		return truth(!a.below(b)), ok
	}
	w := modelWord(op, a, b)
	if w == nil {
		return 0, errOp
	}
	return w.number(), ok
}

func modelDivide(op byte, a, b word) (uint32, api.Errno) {
	if b.ones() == 0 {
		return 0, divided
	}
	quotient, rest := a.by(b)
	if op == divS || op == remS {
		quotient, rest = a.bySigned(b)
	}
	// The quotient of two numbers with the same sign has none, unless it is too great.
	if op == divS && a.sign() == b.sign() && quotient.sign() == 1 {
		return 0, overflow
	}
	if op == divS || op == divU {
		return quotient.number(), ok
	}
	return rest.number(), ok
}

// modelWord is nil if there is no such operator.
func modelWord(op byte, a, b word) word {
	switch op {
	case add:
		return a.plus(b, 0)
	case sub:
		return a.minus(b)
	case mul:
		return a.times(b)
	case and:
		return a.bitwise(b, func(x, y byte) byte { return x * y })
	case or:
		return a.bitwise(b, func(x, y byte) byte { return max(x, y) })
	case xor:
		return a.bitwise(b, func(x, y byte) byte { return (x + y) % 2 })
	case shl:
		return a.move(b, func(w word) word { return w.up(0) })
	case shrS:
		return a.move(b, func(w word) word { return w.down(w.sign()) })
	case shrU:
		return a.move(b, func(w word) word { return w.down(0) })
	case rotl:
		return a.move(b, func(w word) word { return w.up(w.sign()) })
	case rotr:
		return a.move(b, func(w word) word { return w.down(w[0]) })
	}
	return nil
}

// P18.1

func TestOne(t *testing.T) {
	for _, c := range []struct{ a, eqz, clz, ctz, popcnt uint32 }{
		{0, 1, 32, 32, 0},
		{1, 0, 31, 0, 1},
		{2, 0, 30, 1, 1},
		{3, 0, 30, 0, 2},
		{greatest, 0, 1, 0, 31},
		{least, 0, 0, 31, 1},
		{last, 0, 0, 0, 32},
		{0x80000001, 0, 0, 0, 2},
		{0x00ffffff, 0, 8, 0, 24},
		{0xffffff00, 0, 0, 8, 24},
		{0x00ffff00, 0, 8, 8, 16},
		{0x00012300, 0, 15, 8, 4},
		{0x40000002, 0, 1, 1, 2},
		{0x7ffffffe, 0, 1, 1, 30},
		{0x55555555, 0, 1, 0, 16},
		{0xaaaaaaaa, 0, 0, 1, 16},
	} {
		checkOne(t, eqz, c.a, c.eqz)
		checkOne(t, clz, c.a, c.clz)
		checkOne(t, ctz, c.a, c.ctz)
		checkOne(t, popcnt, c.a, c.popcnt)
	}
}

func TestOnePowers(t *testing.T) {
	for k := range uint32(32) {
		p := uint32(1) << k
		checkOne(t, eqz, p, 0)
		checkOne(t, clz, p, 31-k)
		checkOne(t, ctz, p, k)
		checkOne(t, popcnt, p, 1)
		if k > 0 { // 0 has a row in TestOne
			checkOne(t, eqz, p-1, 0)
			checkOne(t, clz, p-1, 32-k)
			checkOne(t, ctz, p-1, 0)
			checkOne(t, popcnt, p-1, k)
		}
	}
}

func TestOneModel(t *testing.T) {
	check := func(op byte, a uint32) {
		t.Helper()
		v, found := alu.One(op, a)
		if want, wanted := modelOne(op, a); v != want || found != wanted {
			t.Errorf("One(%x, %x): %x, %t, want %x, %t", op, a, v, found, want, wanted)
		}
	}
	for _, op := range unary {
		for _, a := range edges() {
			check(op, a)
		}
		byChance(5000, func(a, _ uint32) { check(op, a) })
	}
}

func TestOneOfOthers(t *testing.T) {
	for _, op := range []byte{0x50, 0x79, 0x7a, 0x7b, 0xa7, 0xac, 0xad} { // unary ones of other types
		checkNone(t, op, 0)
		checkNone(t, op, 1)
	}
	n := 0
	for op := range 256 {
		if slices.Contains(unary, byte(op)) {
			continue
		}
		n++
		for _, a := range edges() {
			checkNone(t, byte(op), a)
		}
	}
	if n != 252 {
		t.Errorf("there are %d others", n)
	}
}

// P18.2

func TestRelations(t *testing.T) {
	// In both orders, from the least number to the greatest one.
	unsigned := []uint32{0, 1, greatest, least, last}
	signed := []uint32{least, last, 0, 1, greatest}
	orders := []struct {
		list           []uint32
		lt, gt, le, ge byte
	}{
		{unsigned, ltU, gtU, leU, geU},
		{signed, ltS, gtS, leS, geS},
	}
	for _, o := range orders {
		for i, a := range o.list {
			for j, b := range o.list {
				checkTwo(t, eq, a, b, truth(i == j))
				checkTwo(t, ne, a, b, truth(i != j))
				checkTwo(t, o.lt, a, b, truth(i < j))
				checkTwo(t, o.gt, a, b, truth(i > j))
				checkTwo(t, o.le, a, b, truth(i <= j))
				checkTwo(t, o.ge, a, b, truth(i >= j))
			}
		}
	}
}

func TestSums(t *testing.T) {
	for _, c := range []struct{ a, b, sum, difference, product uint32 }{
		{0, 0, 0, 0, 0},
		{0, 1, 1, last, 0},
		{1, 0, 1, 1, 0},
		{1, 1, 2, 0, 1},
		{7, 2, 9, 5, 14},
		{2, 7, 9, minus(5), 14},
		{1000000, 1000, 1001000, 999000, 1000000000},
		{greatest, 1, least, 0x7ffffffe, greatest},
		{greatest, greatest, 0xfffffffe, 0, 1},
		{greatest, least, last, last, least},
		{least, least, 0, 0, 0},
		{least, 1, 0x80000001, greatest, least},
		{least, 2, 0x80000002, 0x7ffffffe, 0},
		{least, 3, 0x80000003, 0x7ffffffd, least},
		{last, 1, 0, 0xfffffffe, last},
		{1, last, 0, 2, last},
		{last, last, 0xfffffffe, 0, 1},
		{last, 2, 1, 0xfffffffd, 0xfffffffe},
		{minus(7), 3, minus(4), minus(10), minus(21)},
		{0x10000, 0x10000, 0x20000, 0, 0},
		{0x10001, 0x10001, 0x20002, 0, 0x20001},
		{0xffff, 0x10001, 0x20000, minus(2), last},
		{0x12345678, 0x9abcdef0, 0xacf13568, 0x77777788, 0x242d2080},
	} {
		checkTwo(t, add, c.a, c.b, c.sum)
		checkTwo(t, sub, c.a, c.b, c.difference)
		checkTwo(t, mul, c.a, c.b, c.product)
	}
}

func TestDivisions(t *testing.T) {
	for _, c := range []struct{ a, b, divS, remS, divU, remU uint32 }{
		// each pair of signs, with a remainder and without one
		{7, 2, 3, 1, 3, 1},
		{minus(7), 2, minus(3), minus(1), 2147483644, 1},
		{7, minus(2), minus(3), 1, 0, 7},
		{minus(7), minus(2), 3, minus(1), 0, minus(7)},
		{8, 2, 4, 0, 4, 0},
		{minus(8), 2, minus(4), 0, 2147483644, 0},
		{8, minus(2), minus(4), 0, 0, 8},
		{minus(8), minus(2), 4, 0, 0, minus(8)},
		// a smaller number by a larger one
		{0, 5, 0, 0, 0, 0},
		{0, minus(5), 0, 0, 0, 0},
		{3, 5, 0, 3, 0, 3},
		{minus(3), 5, 0, minus(3), 858993458, 3},
		{3, minus(5), 0, 3, 0, 3},
		{minus(3), minus(5), 0, minus(3), 1, 2},
		{minus(5), minus(3), 1, minus(2), 0, minus(5)},
		{greatest, least, 0, greatest, 0, greatest},
		// by 1 and by -1
		{5, 1, 5, 0, 5, 0},
		{minus(5), 1, minus(5), 0, minus(5), 0},
		{greatest, 1, greatest, 0, greatest, 0},
		{least, 1, least, 0, least, 0},
		{last, 1, last, 0, last, 0},
		{0, last, 0, 0, 0, 0},
		{5, last, minus(5), 0, 0, 5},
		{minus(5), last, 5, 0, 0, minus(5)},
		{greatest, last, minus(greatest), 0, 0, greatest},
		{minus(greatest), last, greatest, 0, 0, minus(greatest)},
		{last, last, 1, 0, 1, 0},
		// at the ends
		{least, 2, minus(1 << 30), 0, 1 << 30, 0},
		{least, minus(2), 1 << 30, 0, 0, least},
		{least, 3, minus(715827882), minus(2), 715827882, 2},
		{least, least, 1, 0, 1, 0},
		{last, least, 0, last, 1, greatest},
		{last, greatest, 0, last, 2, 1},
		{last, 2, 0, last, greatest, 1},
	} {
		checkTwo(t, divS, c.a, c.b, c.divS)
		checkTwo(t, remS, c.a, c.b, c.remS)
		checkTwo(t, divU, c.a, c.b, c.divU)
		checkTwo(t, remU, c.a, c.b, c.remU)
	}
}

func TestDivisionsByZero(t *testing.T) {
	check := func(a, _ uint32) {
		for _, op := range []byte{divS, divU, remS, remU} {
			checkFails(t, op, a, 0, divided)
		}
	}
	for _, a := range edges() {
		check(a, 0)
	}
	byChance(1000, check)
}

func TestOverflow(t *testing.T) {
	checkFails(t, divS, least, last, overflow)
	checkTwo(t, remS, least, last, 0)
	checkTwo(t, divU, least, last, 0)
	checkTwo(t, remU, least, last, least)
	// There is no other quotient of 2^31.
	inPairs(func(a, b uint32) {
		if _, e := alu.Two(divS, a, b); e == overflow && (a != least || b != last) {
			t.Errorf("Two(%x, %x, %x): %d", divS, a, b, e)
		}
	})
}

func TestBits(t *testing.T) {
	for at := range 32 {
		for pair := range uint32(4) {
			x, y := pair>>1, pair&1
			// The bits at the other places are the same ones, or others.
			for _, rest := range []uint32{0, last} {
				clear := rest &^ (1 << at)
				a, b := clear|x<<at, clear|y<<at
				checkTwo(t, and, a, b, clear|min(x, y)<<at)
				checkTwo(t, or, a, b, clear|max(x, y)<<at)
				checkTwo(t, xor, a, b, truth(x != y)<<at)
				b = ^clear&^(1<<at) | y<<at
				others := uint32(last) &^ (1 << at)
				checkTwo(t, and, a, b, min(x, y)<<at)
				checkTwo(t, or, a, b, others|max(x, y)<<at)
				checkTwo(t, xor, a, b, others|truth(x != y)<<at)
			}
		}
	}
	checkTwo(t, and, 0xff00ff00, 0x0ff00ff0, 0x0f000f00)
	checkTwo(t, or, 0xff00ff00, 0x0ff00ff0, 0xfff0fff0)
	checkTwo(t, xor, 0xff00ff00, 0x0ff00ff0, 0xf0f0f0f0)
}

func TestShifts(t *testing.T) {
	const low, high = 0x12345679, 0x92345678 // without the sign bit, and with it
	for _, c := range []struct{ a, b, shl, shrS, shrU, rotl, rotr uint32 }{
		{low, 0, low, low, low, low, low},
		{low, 1, 0x2468acf2, 0x091a2b3c, 0x091a2b3c, 0x2468acf2, 0x891a2b3c},
		{low, 4, 0x23456790, 0x01234567, 0x01234567, 0x23456791, 0x91234567},
		{low, 31, 0x80000000, 0, 0, 0x891a2b3c, 0x2468acf2},
		{low, 32, low, low, low, low, low},
		{low, 33, 0x2468acf2, 0x091a2b3c, 0x091a2b3c, 0x2468acf2, 0x891a2b3c},
		{low, least, low, low, low, low, low},
		{low, last, 0x80000000, 0, 0, 0x891a2b3c, 0x2468acf2},
		{high, 0, high, high, high, high, high},
		{high, 1, 0x2468acf0, 0xc91a2b3c, 0x491a2b3c, 0x2468acf1, 0x491a2b3c},
		{high, 4, 0x23456780, 0xf9234567, 0x09234567, 0x23456789, 0x89234567},
		{high, 31, 0, last, 1, 0x491a2b3c, 0x2468acf1},
		{high, 32, high, high, high, high, high},
		{high, 33, 0x2468acf0, 0xc91a2b3c, 0x491a2b3c, 0x2468acf1, 0x491a2b3c},
		{high, least, high, high, high, high, high},
		{high, last, 0, last, 1, 0x491a2b3c, 0x2468acf1},
		{1, 31, least, 0, 0, least, 2},
		{least, 31, 0, last, 1, 1 << 30, 1},
		{greatest, 30, 0xc0000000, 1, 1, 0xdfffffff, 0xfffffffd},
		{last, 1, 0xfffffffe, last, greatest, last, last},
		{0, 5, 0, 0, 0, 0, 0},
	} {
		checkTwo(t, shl, c.a, c.b, c.shl)
		checkTwo(t, shrS, c.a, c.b, c.shrS)
		checkTwo(t, shrU, c.a, c.b, c.shrU)
		checkTwo(t, rotl, c.a, c.b, c.rotl)
		checkTwo(t, rotr, c.a, c.b, c.rotr)
	}
}

func TestTwoModel(t *testing.T) {
	for _, op := range binary {
		inPairs(func(a, b uint32) {
			want, why := modelTwo(op, a, b)
			checkBoth(t, op, a, b, want, why)
		})
	}
}

func TestTwoOfOthers(t *testing.T) {
	list := []uint32{0, 1, 2, 31, 32, greatest, least, last}
	n := 0
	for op := range 256 {
		if slices.Contains(binary, byte(op)) {
			continue
		}
		n++
		for _, a := range list {
			for _, b := range list {
				checkFails(t, byte(op), a, b, errOp)
			}
		}
	}
	if n != 231 {
		t.Errorf("there are %d others", n)
	}
}

// P18.3

func TestUndone(t *testing.T) {
	inPairs(func(a, b uint32) {
		if v := two(t, sub, two(t, add, a, b), b); v != a {
			t.Errorf("%x + %x - %x: %x", a, b, b, v)
		}
		if v := two(t, add, two(t, sub, a, b), b); v != a {
			t.Errorf("%x - %x + %x: %x", a, b, b, v)
		}
		if v := two(t, rotr, two(t, rotl, a, b), b); v != a {
			t.Errorf("%x rotated left and right by %x: %x", a, b, v)
		}
		if v := two(t, rotl, two(t, rotr, a, b), b); v != a {
			t.Errorf("%x rotated right and left by %x: %x", a, b, v)
		}
	})
}

func TestQuotientTimes(t *testing.T) {
	check := func(div, rem byte, a, b uint32) {
		t.Helper()
		quotient, rest := two(t, div, a, b), two(t, rem, a, b)
		if v := two(t, add, two(t, mul, quotient, b), rest); v != a {
			t.Errorf("%x by %x is %x and leaves %x: together they are %x", a, b, quotient, rest, v)
		}
	}
	inPairs(func(a, b uint32) {
		if b == 0 {
			return
		}
		check(divU, remU, a, b)
		if rest := two(t, remU, a, b); rest >= b {
			t.Errorf("%x by %x leaves %x", a, b, rest)
		}
		rest := two(t, remS, a, b)
		if magnitude(rest) >= magnitude(b) || rest != 0 && negative(rest) != negative(a) {
			t.Errorf("%x by %x leaves %x, as signed numbers", a, b, rest)
		}
		if a != least || b != last {
			check(divS, remS, a, b)
		}
	})
}

func TestOneOfThree(t *testing.T) {
	inPairs(func(a, b uint32) {
		for _, o := range []struct{ lt, gt, le, ge byte }{{ltU, gtU, leU, geU}, {ltS, gtS, leS, geS}} {
			below, equal, above := two(t, o.lt, a, b), two(t, eq, a, b), two(t, o.gt, a, b)
			if below+equal+above != 1 {
				t.Errorf("%x and %x: below %d, equal %d, above %d", a, b, below, equal, above)
			}
			checkTwo(t, ne, a, b, below+above)
			checkTwo(t, o.le, a, b, below+equal)
			checkTwo(t, o.ge, a, b, above+equal)
			checkTwo(t, o.gt, b, a, below)
		}
	})
}

// The chapter's example.

func TestExample(t *testing.T) {
	checkTwo(t, divS, minus(7), 2, minus(3))
	checkTwo(t, remS, minus(7), 2, minus(1))
}

// P1

func TestAllOpcodes(t *testing.T) {
	list := []uint32{0, 1, 2, 31, 32, 33, greatest - 1, greatest, least, least + 1, last - 1, last}
	for op := range 256 {
		for _, a := range list {
			v, found := alu.One(byte(op), a)
			if want, wanted := modelOne(byte(op), a); v != want || found != wanted {
				t.Errorf("One(%x, %x): %x, %t, want %x, %t", op, a, v, found, want, wanted)
			}
			for _, b := range list {
				want, why := modelTwo(byte(op), a, b)
				checkBoth(t, byte(op), a, b, want, why)
			}
		}
	}
}

// P2

func TestCalls(t *testing.T) {
	// Whatever is called in between, one with an error too, the result is the same.
	next := trial.Chance(2)
	list := edges()
	number := func() uint32 { return list[next(len(list))] }
	for range 50000 {
		op, a, b := binary[next(len(binary))], number(), number()
		v, e := alu.Two(op, a, b)
		one := unary[next(len(unary))]
		w, _ := alu.One(one, a)
		alu.Two(byte(next(256)), number(), number())
		alu.Two(divS, number(), 0)
		alu.Two(divS, least, last)
		alu.One(byte(next(256)), number())
		checkBoth(t, op, a, b, v, e)
		checkOne(t, one, a, w)
	}
}
