package trial_test

import (
	"math"
	"testing"

	"creel/abort"
	"creel/api"
	"creel/trial"
)

// instrs has an instruction with each kind of immediates, and its bytes.
var instrs = []trial.Sample[api.Instr]{
	{E: api.Instr{Op: 0x01}, B: "\x01"},
	{E: api.Instr{Op: 0x02, A: 0x40}, B: "\x02\x40"},
	{E: api.Instr{Op: 0x04, A: 0x7e}, B: "\x04\x7e"},
	{E: api.Instr{Op: 0x0c, A: 300}, B: "\x0c\xac\x02"},
	{E: api.Instr{Op: 0x0e, A: 7}, B: "\x0e\x00\x07"},
	{E: api.Instr{Op: 0x0e, A: 7, L: []uint32{128, 5}}, B: "\x0e\x02\x80\x01\x05\x07"},
	{E: api.Instr{Op: 0x11, A: 300}, B: "\x11\xac\x02\x00"},
	{E: api.Instr{Op: 0x28, A: 2, B: math.MaxUint32}, B: "\x28\x02\xff\xff\xff\xff\x0f"},
	{E: api.Instr{Op: 0x3f}, B: "\x3f\x00"},
	{E: api.Instr{Op: 0x41, A: math.MaxUint32}, B: "\x41\x7f"},
	{E: api.Instr{Op: 0x41, A: 64}, B: "\x41\xc0\x00"},
	{E: api.Instr{Op: 0x41, A: 1 << 31}, B: "\x41\x80\x80\x80\x80\x78"},
	{E: api.Instr{Op: 0x42, A: math.MaxUint32}, B: "\x42\xff\xff\xff\xff\x0f"},
	{E: api.Instr{Op: 0x42, A: 1 << 63}, B: "\x42\x80\x80\x80\x80\x80\x80\x80\x80\x80\x7f"},
}

func TestInstr(t *testing.T) {
	for _, x := range instrs {
		if got := trial.InstrBytes(x.E); got != x.B || trial.InstrError(x.E) != 0 {
			t.Errorf("%x: % x, want % x", x.E, got, x.B)
		}
		m := trial.NewModel(x.B + "\x0b")
		if got := m.Instr(); !trial.SameInstr(got, x.E) || m.Failed() || m.At != len(x.B) {
			t.Errorf("% x: %x, %v, At %d, want %x", x.B, got, m.Stop, m.At, x.E)
		}
		for n := range len(x.B) {
			m := trial.NewModel(x.B[:n])
			if m.Instr(); m.Stop.Why != 2 {
				t.Errorf("% x: %v", x.B[:n], m.Stop)
			}
		}
	}
}

// TestBrokenInstr has each error of an instruction.
func TestBrokenInstr(t *testing.T) {
	for _, x := range []trial.Broken{
		{B: "\x43", Why: 8},
		{B: "\x06", Why: 9},
		{B: "\x02\x7d", Why: 8, At: 1},
		{B: "\x02\x41", Why: 7, At: 1},
		{B: "\x0e\x91\x4e", Why: 29, At: 1},
		{B: "\x0e\x01\x80\x80\x80\x80\x10", Why: 3, At: 2},
		{B: "\x11\x05\x01", Why: 10, At: 2},
		{B: "\x3f\x01", Why: 10, At: 1},
		{B: "\x41\xff\xff\xff\xff\x0f", Why: 3, At: 1},
		{B: "\x41\x80\x80\x80\x80\x80\x00", Why: 3, At: 1},
		{B: "\x42\x80\x80\x80\x80\x80\x80\x80\x80\x80\x01", Why: 3, At: 1},
	} {
		m := trial.NewModel(x.B)
		if m.Instr(); m.Stop != (abort.Stop{Why: x.Why, At: x.At}) {
			t.Errorf("% x: %v, want %d at %d", x.B, m.Stop, x.Why, x.At)
		}
	}
}

// TestSameInstr has instructions that differ in one field each.
func TestSameInstr(t *testing.T) {
	list := []api.Instr{{}, {Op: 1}, {A: 1}, {B: 1}, {L: []uint32{0}}, {L: []uint32{1}}, {L: []uint32{0, 0}}}
	for x, a := range list {
		for y, b := range list {
			if got := trial.SameInstr(a, b); got != (x == y) {
				t.Errorf("%x, %x: %t", a, b, got)
			}
		}
	}
	if !trial.SameInstr(api.Instr{}, api.Instr{L: []uint32{}}) {
		t.Errorf("an empty list is not the same as none")
	}
}

func TestInt(t *testing.T) {
	for n, want := range map[int64]string{
		0: "\x00", 63: "\x3f", 64: "\xc0\x00", -1: "\x7f", -64: "\x40", -65: "\xbf\x7f", -123456: "\xc0\xbb\x78",
		math.MaxInt64: "\xff\xff\xff\xff\xff\xff\xff\xff\xff\x00",
		math.MinInt64: "\x80\x80\x80\x80\x80\x80\x80\x80\x80\x7f",
	} {
		if got := trial.Int(n); got != want {
			t.Errorf("%d: % x, want % x", n, got, want)
		}
	}
}

// TestConsts: those that may be, and those that may not.
func TestConsts(t *testing.T) {
	for _, x := range trial.Consts() {
		if got := trial.ConstBytes(x.E); got != x.B || trial.ConstError(x.E) != 0 {
			t.Errorf("%x: % x, want % x", x.E, got, x.B)
		}
		m := trial.NewModel(x.B + "\x80")
		if got := m.Const(); !trial.SameInstr(got, x.E) || m.Failed() || m.At != len(x.B) {
			t.Errorf("% x: %x, %v, At %d, want %x", x.B, got, m.Stop, m.At, x.E)
		}
		m = trial.NewModel(x.B[:len(x.B)-1])
		if m.Const(); m.Stop != (abort.Stop{Why: 2, At: len(x.B) - 1}) {
			t.Errorf("% x without its end: %v", x.B, m.Stop)
		}
	}
	for _, x := range trial.WrongConsts() {
		if got := trial.ConstError(x.E); got != x.Why {
			t.Errorf("%x, %d labels: %d, want %d", x.E.Op, len(x.E.L), got, x.Why)
		}
	}
}

// TestBrokenConsts: what is broken is so, whatever follows, and where it is said to be.
func TestBrokenConsts(t *testing.T) {
	for _, lead := range []string{"", "\x7f\x00"} {
		ops := map[byte]bool{}
		for _, x := range trial.BrokenConsts(lead) {
			ops[x.B[len(lead)]] = true
			for _, more := range []string{"", "\x00", "\x0b", "\xff"} {
				m := trial.NewModel(x.B + more)
				m.Bytes(len(lead))
				m.Const()
				if m.Stop != (abort.Stop{Why: x.Why, At: x.At}) {
					t.Errorf("% x: %v, want %d at %d", x.B, m.Stop, x.Why, x.At)
				}
			}
		}
		if len(ops) != 256 {
			t.Errorf("%d opcodes", len(ops))
		}
	}
}
