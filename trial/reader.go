package trial

import (
	"bytes"
	"slices"

	"creel/abort"
	"creel/api"
	"creel/scan"
)

// T is what Reader needs of a testing.T.
type T interface {
	Helper()
	Errorf(format string, args ...any)
}

// Place is a scanner that stands before some bytes, and the offset that it has there.
type Place struct {
	What string
	S    *scan.Scanner
	At   int
}

// Places are before some bytes alone, behind others, far behind, and in a part of others.
func Places(b []byte) []Place {
	outer := behind(1, slices.Concat(b, []byte{0, 0x40, 0x0b}))
	return []Place{
		{"alone", scan.Over(b), 0},
		{"behind others", behind(3, b), 3},
		{"far behind", behind(1000, b), 1000},
		{"in a part", outer.Sub(len(b)), 0},
	}
}

// behind is a scanner that has read so many bytes, and has some bytes left.
func behind(n int, b []byte) *scan.Scanner {
	s := scan.Over(slices.Concat(bytes.Repeat([]byte{0x0b}, n), b))
	s.Bytes(n)
	return s
}

// Reader is a function that reads a value with a scanner, and what is known of it.
type Reader[V any] struct {
	Name  string
	Read  func(s *scan.Scanner) V
	Model func(m *Model) V // reads the same
	Same  func(a, b V) bool
	Tell  func(v V) any // what of a value is worth telling
}

// Takes checks that bytes begin with a value that has so many of them.
func (r Reader[V]) Takes(t T, b string, want V, n int) {
	t.Helper()
	for _, p := range Places([]byte(b)) {
		got, stop := r.try(p.S)
		if !r.Same(got, want) || stop != (abort.Stop{}) {
			t.Errorf("%s of % x, %s: %+v, %v, want %+v", r.Name, Short(b), p.What, r.Tell(got), stop, r.Tell(want))
		}
		if p.S.At() != p.At+n || p.S.Left() != len(b)-n {
			t.Errorf("%s of % x, %s: then At %d and Left %d, want %d and %d", r.Name, Short(b), p.What, p.S.At(), p.S.Left(), p.At+n, len(b)-n)
		}
	}
}

// Refuses checks that bytes begin with no value, and why, and where.
func (r Reader[V]) Refuses(t T, b string, why api.Errno, at int) {
	t.Helper()
	var zero V
	for _, p := range Places([]byte(b)) {
		got, stop := r.try(p.S)
		if !r.Same(got, zero) || stop != (abort.Stop{Why: why, At: p.At + at}) {
			t.Errorf("%s of % x, %s: %+v, %v, want %d at %d", r.Name, Short(b), p.What, r.Tell(got), stop, why, p.At+at)
		}
	}
}

// Agrees checks that bytes are taken or refused as the model says.
func (r Reader[V]) Agrees(t T, b string) {
	t.Helper()
	m := NewModel(b)
	if want := r.Model(m); m.Stop.Why == 0 {
		r.Takes(t, b, want, m.At)
	} else {
		r.Refuses(t, b, m.Stop.Why, m.Stop.At)
	}
}

// try reads, and returns the error with which that aborts.
func (r Reader[V]) try(s *scan.Scanner) (V, abort.Stop) {
	return abort.Value(func() V { return r.Read(s) })
}
