package trial

import (
	"slices"
	"strings"

	"creel/abort"
	"creel/api"
	"creel/scan"
)

// Sample is an element that may be, and its bytes.
type Sample[E any] struct {
	E E
	B string
}

// Bad is an element that may not be, and why.
type Bad[E any] struct {
	E   E
	Why api.Errno
}

// Broken are bytes that begin with no element, whatever follows: why, and where.
type Broken struct {
	B   string
	Why api.Errno
	At  int
}

// Layer is one that reads and writes elements of a kind and lists of them, and what is known of it.
type Layer[E any] struct {
	Right  func(x E) api.Errno
	Put    func(x E) ([]byte, api.Errno)
	Get    func(s *scan.Scanner) E
	GetAll func(s *scan.Scanner) []E
	PutAll func(list []E) ([]byte, api.Errno)

	// The model is written from the chapter, and asks no layer.
	ModelRight func(x E) api.Errno
	ModelLate  func(x E) api.Errno // of an element that may be by Right, but not by Put; nil: there are none
	ModelPut   func(x E) string    // of an element that may be
	ModelGet   func(m *Model) E

	Samples func() []Sample[E] // new ones in each call: 78 at most, so that a list may have each of them 128 times
	Wrong   func() []Bad[E]
	Broken  []Broken
	Any     func(next func(n int) int) E // one that may be, by chance
	Other   E                            // none of the samples
	Same    func(a, b E) bool
	Tell    func(x E) any // what of an element is worth telling
}

// One is the reader of an element.
func (l Layer[E]) One() Reader[E] {
	return Reader[E]{
		Name:  "Get",
		Read:  l.Get,
		Model: l.ModelGet,
		Same:  l.Same,
		Tell:  l.Tell,
	}
}

// All is the reader of a list.
func (l Layer[E]) All() Reader[[]E] {
	return Reader[[]E]{
		Name:  "GetAll",
		Read:  l.GetAll,
		Model: func(m *Model) []E { return List(m, l.ModelGet) },
		Same:  l.same,
		Tell:  func(list []E) any { return len(list) },
	}
}

// same tells whether lists are.
func (l Layer[E]) same(a, b []E) bool { return slices.EqualFunc(a, b, l.Same) }

// late is the error that Put has and Right does not.
func (l Layer[E]) late(x E) api.Errno {
	if l.ModelLate == nil || l.ModelRight(x) != 0 {
		return 0
	}
	return l.ModelLate(x)
}

// modelError is that of Put.
func (l Layer[E]) modelError(x E) api.Errno {
	if e := l.ModelRight(x); e != 0 {
		return e
	}
	return l.late(x)
}

// Judges checks the error of Put, that it has no bytes beside it, and that Right has it, too, if it is not one that comes late.
func (l Layer[E]) Judges(t T, x E, want api.Errno) {
	t.Helper()
	right := want
	if l.late(x) != 0 {
		right = 0
	}
	if got := l.Right(x); got != right {
		t.Errorf("Right(%+v): %d, want %d", l.Tell(x), got, right)
	}
	b, e := l.Put(x)
	if e != want {
		t.Errorf("Put(%+v): %d, want %d", l.Tell(x), e, want)
	}
	if want != 0 && len(b) != 0 {
		t.Errorf("Put(%+v): % x beside an error", l.Tell(x), Short(b))
	}
}

// Writes checks the bytes of an element that may be.
func (l Layer[E]) Writes(t T, x E, want string) {
	t.Helper()
	l.Judges(t, x, 0)
	if b, _ := l.Put(x); string(b) != want {
		t.Errorf("Put(%+v): % x, want % x", l.Tell(x), Short(b), Short(want))
	}
}

// AgreesOn checks that an element has the error, or the bytes, that the model says.
func (l Layer[E]) AgreesOn(t T, x E) {
	t.Helper()
	if e := l.modelError(x); e != 0 {
		l.Judges(t, x, e)
	} else {
		l.Writes(t, x, l.ModelPut(x))
	}
}

// WritesAll checks the bytes of a list, or its error and that there are none.
func (l Layer[E]) WritesAll(t T, list []E, want string, e api.Errno) {
	t.Helper()
	b, got := l.PutAll(list)
	if got != e || string(b) != want {
		t.Errorf("PutAll of %d: % x (%d bytes), %d, want % x (%d bytes), %d", len(list), Short(b), len(b), got, Short(want), len(want), e)
	}
}

// AgreesOnAll checks that a list has the error, or the bytes, that the model says.
func (l Layer[E]) AgreesOnAll(t T, list []E) {
	t.Helper()
	want, e := l.modelPutAll(list)
	l.WritesAll(t, list, want, e)
}

// modelPutAll is what all chapters say of PutAll.
func (l Layer[E]) modelPutAll(list []E) (string, api.Errno) {
	if len(list) > 10000 {
		return "", 29
	}
	var s strings.Builder
	s.WriteString(Uint(len(list)))
	for _, x := range list {
		if e := l.modelError(x); e != 0 {
			return "", e
		}
		s.WriteString(l.ModelPut(x))
	}
	return s.String(), 0
}

// ComeBack checks that elements, and their list, are read as they were written.
func (l Layer[E]) ComeBack(t T, list []E) {
	t.Helper()
	for _, x := range list {
		b, e := l.Put(x)
		s := scan.Over(b)
		if got, stop := l.One().try(s); e != 0 || !l.Same(got, x) || stop != (abort.Stop{}) || !s.Done() {
			t.Errorf("Put: %d, then Get: %+v, %v, At %d of %d, want %+v", e, l.Tell(got), stop, s.At(), len(b), l.Tell(x))
		}
	}
	b, e := l.PutAll(list)
	got, stop := l.All().try(scan.Over(b))
	if e != 0 || !l.same(got, list) || stop != (abort.Stop{}) {
		t.Errorf("PutAll: %d, then GetAll: %d elements, %v, want %d", e, len(got), stop, len(list))
	}
	if again, e := l.PutAll(got); e != 0 || string(again) != string(b) {
		t.Errorf("PutAll of what came back: %d, %d bytes, want %d", e, len(again), len(b))
	}
}
