package arith_test

import (
	"testing"

	"creel/api"
	"creel/arith"
	"creel/trial"
)

// The tests of the layers that use it hold the operators against a model. Here the opcodes are others.

// parts are the first opcodes of both parts: those of the layers, far from each other, beside each other, and at the ends.
func parts() [][2]byte {
	return [][2]byte{{0x45, 0x67}, {0x50, 0x79}, {200, 10}, {0, 11}, {18, 0}, {256 - 11, 0}, {0, 256 - 18}}
}

func TestOf(t *testing.T) {
	for _, p := range parts() {
		for op := range 256 {
			want := 0
			if n := op - int(p[0]); n >= 0 && n < 11 {
				want = 1 + n
			}
			if n := op - int(p[1]); n >= 0 && n < 18 {
				want = 12 + n
			}
			if got := arith.Of(byte(op), p[0], p[1]); got != arith.Op(want) {
				t.Errorf("Of(%d, %d, %d): %d, want %d", op, p[0], p[1], got, want)
			}
		}
	}
}

// layer has the opcodes in a row, behind one that is none.
func layer[N arith.Number](bits int) trial.Arith[N] {
	l := trial.Arith[N]{
		Bits: bits,
		One:  func(op byte, a N) (N, bool) { return arith.One(arith.Op(op), a) },
		Two:  func(op byte, a, b N) (N, api.Errno) { return arith.Two(arith.Op(op), a, b) },
	}
	for o := range l.Ops {
		l.Ops[o] = byte(o) + 1
	}
	return l
}

func TestOperators(t *testing.T) {
	layer[uint32](32).TestAllOpcodes(t)
	layer[uint64](64).TestAllOpcodes(t)
}
