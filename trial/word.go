package trial

import (
	"slices"

	"creel/api"
)

// Operator is one of those that numbers of 32 and of 64 bits have, in the chapters' order.
type Operator int

const (
	Eqz Operator = iota
	Eq
	Ne
	LtS
	LtU
	GtS
	GtU
	LeS
	LeU
	GeS
	GeU
	Clz
	Ctz
	Popcnt
	Add
	Sub
	Mul
	DivS
	DivU
	RemS
	RemU
	And
	Or
	Xor
	Shl
	ShrS
	ShrU
	Rotl
	Rotr
	Operators // how many there are
)

// unary tells whether an operator takes one number. The others take two.
func (o Operator) unary() bool { return o == Eqz || Clz <= o && o <= Popcnt }

// The model of the operators works bit by bit.

// word is a number's bits, the lowest one first.
type word []byte

func wordOf(v uint64, width int) word {
	w := make(word, width)
	for i := range w {
		w[i] = byte(v >> i & 1)
	}
	return w
}

func (w word) number() uint64 {
	v := uint64(0)
	for i, bit := range w {
		v |= uint64(bit) << i
	}
	return v
}

func (w word) zero() word { return make(word, len(w)) }
func (w word) sign() byte { return w[len(w)-1] }

// bitwise makes each bit of those of two words.
func (w word) bitwise(b word, f func(x, y byte) byte) word {
	list := slices.Clone(w)
	for i := range list {
		list[i] = f(w[i], b[i])
	}
	return list
}

func (w word) not() word {
	return w.bitwise(w, func(x, _ byte) byte { return 1 - x })
}

func (w word) plus(b word, carry byte) word {
	return w.bitwise(b, func(x, y byte) byte {
		sum := x + y + carry
		carry = sum / 2
		return sum % 2
	})
}

func (w word) minus(b word) word { return w.plus(b.not(), 1) }

// up moves the bits to the next higher place, and down to the next lower one.
func (w word) up(fill byte) word   { return append(word{fill}, w[:len(w)-1]...) }
func (w word) down(fill byte) word { return append(slices.Clone(w[1:]), fill) }

func (w word) times(b word) word {
	sum := w.zero()
	for _, bit := range b {
		if bit == 1 {
			sum = sum.plus(w, 0)
		}
		w = w.up(0)
	}
	return sum
}

// below compares unsigned numbers: the highest bit that differs decides.
func (w word) below(b word) bool {
	for i, bit := range slices.Backward(w) {
		if bit != b[i] {
			return bit < b[i]
		}
	}
	return false
}

// belowSigned compares signed numbers: of two with the same sign, the bits below decide as they do without one.
func (w word) belowSigned(b word) bool {
	if w.sign() != b.sign() {
		return w.sign() == 1
	}
	return w.below(b)
}

// by divides unsigned numbers, as it is done with paper and pencil.
func (w word) by(b word) (quotient, rest word) {
	quotient, rest = w.zero(), w.zero()
	for i, bit := range slices.Backward(w) {
		over := rest.sign() // what is moved out has not gone
		rest = rest.up(bit)
		if over == 1 || !rest.below(b) {
			rest = rest.minus(b)
			quotient[i] = 1
		}
	}
	return quotient, rest
}

// signed is the number of that magnitude and sign.
func (w word) signed(sign byte) word {
	if sign == 1 {
		return w.zero().minus(w)
	}
	return w
}

// bySigned divides the magnitudes of signed numbers.
func (w word) bySigned(b word) (quotient, rest word) {
	quotient, rest = w.signed(w.sign()).by(b.signed(b.sign()))
	return quotient.signed(w.sign() ^ b.sign()), rest.signed(w.sign())
}

// ones counts the one bits.
func (w word) ones() (n uint64) {
	for _, bit := range w {
		n += uint64(bit)
	}
	return n
}

// leading and trailing count the zero bits at the ends.
func (w word) leading() (n uint64) {
	for _, bit := range slices.Backward(w) {
		if bit == 1 {
			break
		}
		n++
	}
	return n
}

func (w word) trailing() (n uint64) {
	for _, bit := range w {
		if bit == 1 {
			break
		}
		n++
	}
	return n
}

// move does a step as often as a number tells, of whose bits only as many count as it takes to name each place.
func (w word) move(b word, step func(w word) word) word {
	for i := 0; 1<<i < len(w); i++ {
		for range int(b[i]) << i {
			w = step(w)
		}
	}
	return w
}

func truth(holds bool) uint64 {
	if holds {
		return 1
	}
	return 0
}

// OneNumber is what an operator makes of a number of so many bits; false: it is none of one.
func OneNumber(o Operator, v uint64, width int) (uint64, bool) {
	w := wordOf(v, width)
	switch o {
	case Eqz:
		return truth(w.ones() == 0), true
	case Clz:
		return w.leading(), true
	case Ctz:
		return w.trailing(), true
	case Popcnt:
		return w.ones(), true
	}
	return 0, false
}

// TwoNumbers is what an operator makes of two of them, or the error.
func TwoNumbers(o Operator, x, y uint64, width int) (uint64, api.Errno) {
	a, b := wordOf(x, width), wordOf(y, width)
	switch o {
	case DivS, DivU, RemS, RemU:
		return quotient(o, a, b)
	case Eq:
		return truth(slices.Equal(a, b)), 0
	case Ne:
		return truth(!slices.Equal(a, b)), 0
	case LtS:
		return truth(a.belowSigned(b)), 0
	case LtU:
		return truth(a.below(b)), 0
	case GtS:
		return truth(b.belowSigned(a)), 0
	case GtU:
		return truth(b.below(a)), 0
	case LeS:
		return truth(!b.belowSigned(a)), 0
	case LeU:
		return truth(!b.below(a)), 0
	case GeS:
		return truth(!a.belowSigned(b)), 0
	case GeU:
		return truth(!a.below(b)), 0
	}
	w := combined(o, a, b)
	if w == nil {
		return 0, 9
	}
	return w.number(), 0
}

func quotient(o Operator, a, b word) (uint64, api.Errno) {
	if b.ones() == 0 {
		return 0, 61
	}
	quotient, rest := a.by(b)
	if o == DivS || o == RemS {
		quotient, rest = a.bySigned(b)
	}
	// The quotient of two numbers with the same sign has none, unless it is too great.
	if o == DivS && a.sign() == b.sign() && quotient.sign() == 1 {
		return 0, 62
	}
	if o == DivS || o == DivU {
		return quotient.number(), 0
	}
	return rest.number(), 0
}

// combined is nil if there is no such operator.
func combined(o Operator, a, b word) word {
	switch o {
	case Add:
		return a.plus(b, 0)
	case Sub:
		return a.minus(b)
	case Mul:
		return a.times(b)
	case And:
		return a.bitwise(b, func(x, y byte) byte { return x * y })
	case Or:
		return a.bitwise(b, func(x, y byte) byte { return max(x, y) })
	case Xor:
		return a.bitwise(b, func(x, y byte) byte { return (x + y) % 2 })
	case Shl:
		return a.move(b, func(w word) word { return w.up(0) })
	case ShrS:
		return a.move(b, func(w word) word { return w.down(w.sign()) })
	case ShrU:
		return a.move(b, func(w word) word { return w.down(0) })
	case Rotl:
		return a.move(b, func(w word) word { return w.up(w.sign()) })
	case Rotr:
		return a.move(b, func(w word) word { return w.down(w[0]) })
	}
	return nil
}
