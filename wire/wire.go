// Package wire reads and writes what several sections of a module have in common: names, kinds, indices, parts of so many bytes, and lists of elements.
package wire

import (
	"creel/abort"
	"creel/api"
	"creel/leb"
	"creel/scan"
)

// Size: how many bytes, or elements, follow.
func Size(n int) []byte { return leb.Uint(uint64(n)) }

// Name: how many bytes it has, and these.
func Name(s string) []byte { return Sized(s) }

// Sized: how many bytes there are, and these.
func Sized[B []byte | string](b B) []byte { return append(Size(len(b)), b...) }

// Part: how many bytes follow, and a scanner over these, whose places begin with 0; and the place where they begin. ErrShort: they are not all there.
func Part(s *scan.Scanner) (*scan.Scanner, int) {
	n := s.Index()
	from := s.At()
	// Sub asks the same, but of an int, which may be too small for n.
	abort.Unless(uint64(n) <= uint64(s.Left()), api.ErrShort, from)
	return s.Sub(int(n)), from
}

// Whole: a part of so many bytes, which read reads to its end; what that aborts for is told by places in the whole. ErrEnd: read leaves some of them.
func Whole(s *scan.Scanner, read func(part *scan.Scanner)) {
	part, from := Part(s)
	// The part counts from its own beginning.
	abort.Within(from, func() {
		read(part)
		part.End()
	})
}

// Kind: that of an import or an export, which comes next. ErrKind: there is no such one.
func Kind(s *scan.Scanner) byte {
	at := s.At()
	k := s.Byte()
	abort.Unless(k <= api.KindGlobal, api.ErrKind, at)
	return k
}

// Nought: a byte that can only be 0. ErrFlag: it is another one.
func Nought(s *scan.Scanner) {
	at := s.At()
	abort.Unless(s.Byte() == 0, api.ErrFlag, at)
}

// Index: a number of 32 bits.
func Index(n uint32) []byte { return leb.Uint(uint64(n)) }

// Items: how many there are, and the bytes of each.
func Items[E any](list []E, one func(x E) []byte) []byte {
	b := Size(len(list))
	for _, x := range list {
		b = append(b, one(x)...)
	}
	return b
}

// GetItems: those that come next, behind their number; one reads each.
func GetItems[E any](s *scan.Scanner, one func(s *scan.Scanner) E) []E {
	var list []E
	// Room for all of them is not taken ahead: a few bytes could ask for a lot.
	for range s.Count() {
		list = append(list, one(s))
	}
	return list
}

// Indices: how many there are, and these.
func Indices(list []uint32) []byte { return Items(list, Index) }

// GetIndices: those that come next, behind their number.
func GetIndices(s *scan.Scanner) []uint32 { return GetItems(s, (*scan.Scanner).Index) }

// GetAll: a list, of which one reads an element, and its end. The first error.
func GetAll[E any](s *scan.Scanner, one func(s *scan.Scanner) E) []E {
	list := GetItems(s, one)
	s.End()
	return list
}

// PutAll: a list's bytes; those of an element are one's. ErrMany: too many elements; the first error.
func PutAll[E any](list []E, one func(x E) ([]byte, api.Errno)) ([]byte, api.Errno) {
	if len(list) > api.MaxItems {
		return nil, api.ErrMany
	}
	b := Size(len(list))
	for _, x := range list {
		more, e := one(x)
		if e != api.OK {
			return nil, e
		}
		b = append(b, more...)
	}
	return b, api.OK
}
