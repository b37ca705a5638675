package trial_test

import (
	"strings"
	"testing"

	"creel/abort"
	"creel/api"
	"creel/trial"
)

func TestPlains(t *testing.T) {
	list := trial.Plains("\x02\x41\x1a\x0b\x92")
	if !trial.SameBody(list, []api.Instr{{Op: 0x02, A: 0x40}, {Op: 0x41}, {Op: 0x1a}, {Op: 0x0b}, {Op: 0x92}}) || len(trial.Plains("")) != 0 {
		t.Errorf("%x", list)
	}
	if b := trial.BodyBytes(list[:4]); b != "\x02\x40\x41\x00\x1a\x0b" || trial.BodyBytes(nil) != "" {
		t.Errorf("% x", b)
	}
	if trial.SameBody(list, list[:4]) || trial.SameBody(list[:1], trial.Plains("\x03")) || !trial.SameBody(nil, list[:0]) {
		t.Errorf("lists that differ are the same, or none is not")
	}
}

// TestBody has bodies, and opcodes that are none: why, and at which of them a reader finds it.
func TestBody(t *testing.T) {
	for _, x := range []struct {
		ops string
		why api.Errno
		at  int
	}{
		{"\x0b", 0, 0},
		{"\x01\x0f\x0b", 0, 0},
		{"\x02\x03\x0b\x04\x0b\x04\x01\x05\x01\x0b\x0b\x0b", 0, 0},
		{"\x04\x04\x05\x0b\x05\x04\x05\x0b\x0b\x0b", 0, 0},
		{"", 2, 0},
		{"\x01", 2, 1},
		{"\x02\x0b", 2, 2},
		{"\x04\x05\x0b", 2, 3},
		{"\x05\x0b", 30, 0},
		{"\x02\x05\x0b\x0b", 30, 1},
		{"\x03\x05\x0b\x0b", 30, 1},
		{"\x04\x05\x05\x0b\x0b", 30, 2},
		{"\x04\x02\x05\x0b\x0b\x0b", 30, 2},
		{"\x04\x0b\x05\x0b", 30, 2},
		{strings.Repeat("\x01", 20000) + "\x0b", 29, 20000},
	} {
		list := trial.Plains(x.ops)
		m := trial.NewModel(trial.BodyBytes(list))
		got := m.Body()
		at := len(trial.BodyBytes(list[:x.at]))
		if m.Stop != (abort.Stop{Why: x.why, At: at}) || x.why == 0 && !trial.SameBody(got, list) {
			t.Errorf("% x: %d instructions, %v, want %d at %d", trial.Short(x.ops), len(got), m.Stop, x.why, at)
		}
		why := x.why
		if why == 2 { // the end is missing
			why = 30
		}
		if e := trial.ShapeError(list); e != why {
			t.Errorf("% x: %d, want %d", trial.Short(x.ops), e, why)
		}
	}
	if e := trial.ShapeError(trial.Plains("\x0b\x0b")); e != 30 {
		t.Errorf("behind the end: %d", e)
	}
	if e := trial.ShapeError(trial.Plains(strings.Repeat("\x01", 19999) + "\x0b")); e != 0 {
		t.Errorf("20000 instructions: %d", e)
	}
}

// TestPart has parts that are whole, that end too early, and of which more or less is read than there is.
func TestPart(t *testing.T) {
	for _, x := range []struct {
		b    string
		want string
		stop abort.Stop
		at   int
	}{
		{"\x03\x02abc", "ab", abort.Stop{}, 4},
		{"\x05\x02abcd", "ab", abort.Stop{}, 6},
		{"\x81\x00\x00a", "", abort.Stop{}, 3},
		{"\x02\x02ab", "", abort.Stop{Why: 2, At: 2}, 0},
		{"\x00\x02ab", "", abort.Stop{Why: 2, At: 1}, 0},
		{"\x04\x02ab", "", abort.Stop{Why: 2, At: 1}, 0},
		{"\x84\x00\x02ab", "", abort.Stop{Why: 2, At: 2}, 0},
		{"\xff\xff\xff\xff\x0f\x02ab", "", abort.Stop{Why: 2, At: 5}, 0},
		{"\xff\xff\xff\xff\x1f\x02ab", "", abort.Stop{Why: 3}, 0},
		{"\x03\x02a\xff", "", abort.Stop{Why: 4, At: 2}, 0},
		{"", "", abort.Stop{Why: 2}, 0},
	} {
		m := trial.NewModel(x.b)
		got := ""
		m.Part(func(part *trial.Model) { got = part.Name() })
		if m.Stop != x.stop || x.stop.Why == 0 && (got != x.want || m.At != x.at) {
			t.Errorf("% x: %q, %v, then At %d, want %q, %v, then %d", x.b, got, m.Stop, m.At, x.want, x.stop, x.at)
		}
	}
}
