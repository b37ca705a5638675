// Package arith has what the layers of 32-bit and of 64-bit numbers have in common: the operators.
package arith

import (
	"math/bits"

	"creel/api"
)

// Number is what an operator takes and makes.
type Number interface{ uint32 | uint64 }

// Op is an operator. Both kinds of numbers have all of them in this order, but in two parts.
type Op byte

// Those that ask something: 1 is yes, 0 is no.
const (
	None Op = iota // no operator
	Eqz
	Eq
	Ne
	LtS
	LtU
	GtS
	GtU
	LeS
	LeU
	GeS
	GeU
)

// Those that make a number.
const (
	Clz = GeU + 1 + iota
	Ctz
	Popcnt
	Add
	Sub
	Mul
	DivS
	DivU
	RemS
	RemU
	And
	Or
	Xor
	Shl
	ShrS
	ShrU
	Rotl
	Rotr
)

// Of: the operator of an opcode, by the opcodes of Eqz and of Clz; None: it has none.
func Of(op, eqz, clz byte) Op {
	// For an opcode ahead of the first one, the difference wraps round to more than there are.
	if n := op - eqz; n <= byte(GeU-Eqz) {
		return Eqz + Op(n)
	}
	if n := op - clz; n <= byte(Rotr-Clz) {
		return Clz + Op(n)
	}
	return None
}

// One: what an operator makes of one number; false: it is none of one.
func One[N Number](op Op, a N) (N, bool) {
	switch op {
	case Eqz:
		return truth[N](a == 0), true
	case Clz:
		return width[N]() - N(bits.Len64(uint64(a))), true
	case Ctz:
		// As one of 64 bits, 0 has 64 of them.
		return min(N(bits.TrailingZeros64(uint64(a))), width[N]()), true
	case Popcnt:
		return N(bits.OnesCount64(uint64(a))), true
	}
	return 0, false
}

// Two: what an operator makes of two numbers. TrapDivide: by 0; TrapOverflow: the quotient is too great; ErrOp: it is none of two.
func Two[N Number](op Op, a, b N) (N, api.Errno) {
	switch op {
	case Add:
		return a + b, api.OK
	case Sub:
		return a - b, api.OK
	case Mul:
		return a * b, api.OK
	case DivS, DivU, RemS, RemU:
		return divide(op, a, b)
	case And:
		return a & b, api.OK
	case Or:
		return a | b, api.OK
	case Xor:
		return a ^ b, api.OK
	case Shl, ShrS, ShrU, Rotl, Rotr:
		return shift(op, a, b%width[N]()), api.OK
	}
	return compare(op, a, b)
}

// width: how many bits a number has.
func width[N Number]() N { return N(bits.OnesCount64(uint64(^N(0)))) }

// signed: what a number stands for as a signed one.
func signed[N Number](a N) int64 {
	above := 64 - width[N]()
	return int64(a) << above >> above
}

// divide: a quotient, or what is left of it. TrapDivide; TrapOverflow.
func divide[N Number](op Op, a, b N) (N, api.Errno) {
	if b == 0 {
		return 0, api.TrapDivide
	}
	switch op {
	case DivS:
		return quotient(a, b)
	case DivU:
		return a / b, api.OK
	case RemS:
		// Go leaves 0 of the least number by -1, as it should be: only the quotient is too great.
		return N(signed(a) % signed(b)), api.OK
	}
	return a % b, api.OK
}

// quotient: of two signed numbers. TrapOverflow.
func quotient[N Number](a, b N) (N, api.Errno) {
	// No other quotient is too great than that of the least number and -1.
	if a == 1<<(width[N]()-1) && b == ^N(0) {
		return 0, api.TrapOverflow
	}
	return N(signed(a) / signed(b)), api.OK
}

// shift: a number moved, or turned, by less places than it has.
func shift[N Number](op Op, a, places N) N {
	switch op {
	case Shl:
		return a << places
	case ShrS:
		return N(signed(a) >> places)
	case ShrU:
		return a >> places
	case Rotl:
		return a<<places | a>>(width[N]()-places)
	}
	return a>>places | a<<(width[N]()-places)
}

// compare: is so what an operator asks of two numbers? ErrOp: it asks nothing of two.
func compare[N Number](op Op, a, b N) (N, api.Errno) {
	holds := false
	switch op {
	case Eq:
		holds = a == b
	case Ne:
		holds = a != b
	case LtS:
		holds = signed(a) < signed(b)
	case LtU:
		holds = a < b
	case GtS:
		holds = signed(a) > signed(b)
	case GtU:
		holds = a > b
	case LeS:
		holds = signed(a) <= signed(b)
	case LeU:
		holds = a <= b
	case GeS:
		holds = signed(a) >= signed(b)
	case GeU:
		holds = a >= b
	default:
		return 0, api.ErrOp
	}
	return truth[N](holds), api.OK
}

// truth: an answer as a number.
func truth[N Number](holds bool) N {
	if holds {
		return 1
	}
	return 0
}
