package trial

import (
	"slices"
	"strings"

	"creel/abort"
	"creel/scan"
)

// elements are the samples without their bytes.
func (l Layer[E]) elements() []E {
	var list []E
	for _, x := range l.Samples() {
		list = append(list, x.E)
	}
	return list
}

// TestPut writes the samples, and what may not be.
func (l Layer[E]) TestPut(t T) {
	t.Helper()
	for _, x := range l.Samples() {
		l.Writes(t, x.E, x.B)
		l.AgreesOn(t, x.E)
	}
	for _, x := range l.Wrong() {
		l.Judges(t, x.E, x.Why)
		l.AgreesOn(t, x.E)
	}
}

// TestGet reads the samples: alone, before every byte (also what would go on with a varint), twice, and cut off at every place.
func (l Layer[E]) TestGet(t T) {
	t.Helper()
	one := l.One()
	for _, x := range l.Samples() {
		one.Takes(t, x.B, x.E, len(x.B))
		one.Takes(t, x.B+x.B, x.E, len(x.B))
		for more := range 256 {
			one.Takes(t, x.B+string([]byte{byte(more)}), x.E, len(x.B))
		}
		for n := range len(x.B) {
			one.Agrees(t, x.B[:n])
		}
	}
}

// TestGetInTurn reads the samples with one scanner, behind each other, and then finds that there are no more.
func (l Layer[E]) TestGetInTurn(t T) {
	t.Helper()
	var all string
	for _, x := range l.Samples() {
		all += x.B
	}
	s, at := scan.Over([]byte(all)), 0
	for _, x := range l.Samples() {
		at += len(x.B)
		if got, stop := l.One().try(s); !l.Same(got, x.E) || stop != (abort.Stop{}) || s.At() != at {
			t.Errorf("Get: %+v, %v, then At %d, want %+v, then %d", l.Tell(got), stop, s.At(), l.Tell(x.E), at)
		}
	}
	var none E
	if got, stop := l.One().try(s); !l.Same(got, none) || stop != (abort.Stop{Why: 2, At: len(all)}) {
		t.Errorf("Get behind the last one: %+v, %v", l.Tell(got), stop)
	}
}

// TestBroken reads what is broken, alone and in lists, where what comes first counts.
func (l Layer[E]) TestBroken(t T) {
	t.Helper()
	good := l.Samples()[0].B
	all, n := l.All(), len(good)
	for _, x := range l.Broken {
		for _, more := range []string{"", "\x00", good, "\xff\xff\xff\xff\xff\xff"} {
			l.One().Refuses(t, x.B+more, x.Why, x.At)
			all.Refuses(t, "\x01"+x.B+more, x.Why, 1+x.At)
			all.Refuses(t, "\x03"+good+x.B+more, x.Why, 1+n+x.At)
			all.Refuses(t, "\x03"+good+good+x.B+more, x.Why, 1+2*n+x.At)
			all.Refuses(t, "\x02"+good+good+x.B+more, 14, 1+2*n)
			all.Refuses(t, "\x90\x4e"+x.B+more, x.Why, 2+x.At)
			// The number counts ahead of what is behind it.
			all.Refuses(t, "\x91\x4e"+x.B+more, 29, 0)
			all.Refuses(t, "\xff\xff\xff\xff\x0f"+x.B+more, 29, 0)
			all.Refuses(t, "\xff\xff\xff\xff\x1f"+x.B+more, 3, 0)
			all.Refuses(t, "\x80\x80\x80\x80\x80\x00"+x.B+more, 3, 0)
		}
		for _, y := range l.oneForEachError() {
			all.Refuses(t, "\x02"+x.B+y.B, x.Why, 1+x.At)
		}
	}
}

// oneForEachError are the first ones of those that are broken in the same way.
func (l Layer[E]) oneForEachError() []Broken {
	var list []Broken
	for _, x := range l.Broken {
		if !slices.ContainsFunc(list, func(y Broken) bool { return y.Why == x.Why }) {
			list = append(list, x)
		}
	}
	return list
}

// TestCutOff cuts the bytes of an element off at every place: the error is at the beginning of the part that is not whole.
func (l Layer[E]) TestCutOff(t T, b string, parts []int) {
	t.Helper()
	for n := range len(b) {
		at := 0
		for _, from := range parts {
			if from <= n {
				at = from
			}
		}
		l.One().Refuses(t, b[:n], 2, at)
	}
	l.One().Takes(t, b, l.ModelGet(NewModel(b)), len(b))
}

// TestBytes changes the bytes of an element to every value, one at a time, in the element alone and in lists.
func (l Layer[E]) TestBytes(t T, good string) {
	t.Helper()
	for at := range len(good) {
		for x := range 256 {
			b := good[:at] + string([]byte{byte(x)}) + good[at+1:]
			l.One().Agrees(t, b)
			l.All().Agrees(t, "\x01"+b)
			l.All().Agrees(t, "\x02"+b+good)
		}
	}
}

// TestWords reads all strings of up to so many bytes of an alphabet, alone and behind a lead, as an element and as a list. What is read may be written.
func (l Layer[E]) TestWords(t T, alphabet string, most int, lead string) {
	t.Helper()
	for n := range most + 1 {
		Words([]byte(alphabet), n, func(w []byte) {
			for _, s := range []string{string(w), lead + string(w)} {
				l.One().Agrees(t, s)
				l.All().Agrees(t, s)
				l.All().Agrees(t, "\x01"+s)
				if x, stop := l.One().try(scan.Over([]byte(s))); stop == (abort.Stop{}) {
					l.AgreesOn(t, x)
					l.Judges(t, x, 0)
				}
			}
		})
	}
}

// TestGetAll reads lists of none, of one and of several.
func (l Layer[E]) TestGetAll(t T) {
	t.Helper()
	all := l.All()
	all.Takes(t, "\x00", nil, 1)
	all.Takes(t, "\x80\x80\x80\x80\x00", nil, 5)
	var list []E
	var b string
	for _, x := range l.Samples() {
		all.Takes(t, "\x01"+x.B, []E{x.E}, 1+len(x.B))
		all.Takes(t, "\x81\x80\x00"+x.B, []E{x.E}, 3+len(x.B))
		list = append(list, x.E)
		b += x.B
		all.Takes(t, Uint(len(list))+b, list, 1+len(b))
	}
	b, list = Uint(len(list)*128)+strings.Repeat(b, 128), slices.Repeat(list, 128)
	all.Takes(t, b, list, len(b))
}

// TestGetAllOfAnotherNumber reads numbers that are larger or smaller than that of the elements that follow, and lists that are cut off.
func (l Layer[E]) TestGetAllOfAnotherNumber(t T) {
	t.Helper()
	all := l.All()
	all.Refuses(t, "\x00\x00", 14, 1)
	all.Refuses(t, "\x80\x00\x00\x00\x00\x00", 14, 2)
	var b string
	for n, x := range l.Samples() {
		for more := range 256 {
			all.Refuses(t, "\x01"+x.B+string([]byte{byte(more)}), 14, 1+len(x.B))
		}
		all.Refuses(t, "\x00"+b+x.B, 14, 1)
		all.Refuses(t, Uint(n)+b+x.B, 14, 1+len(b))
		b += x.B
		all.Refuses(t, Uint(n+2)+b, 2, 1+len(b))
		all.Refuses(t, "\x7f"+b, 2, 1+len(b))
		all.Refuses(t, "\x90\x4e"+b, 2, 2+len(b)) // 10000
		all.Refuses(t, "\x91\x4e"+b, 29, 0)
	}
	b = Uint(len(l.Samples())) + b
	for n := range len(b) {
		m := NewModel(b[:n])
		if List(m, l.ModelGet); m.Stop.Why != 2 {
			t.Errorf("%d bytes: %v", n, m.Stop)
		}
		all.Refuses(t, b[:n], 2, m.Stop.At)
	}
}

// TestPutAll writes lists of none, of one and of several.
func (l Layer[E]) TestPutAll(t T) {
	t.Helper()
	l.WritesAll(t, nil, "\x00", 0)
	l.WritesAll(t, []E{}, "\x00", 0)
	var list []E
	var b string
	for _, x := range l.Samples() {
		l.WritesAll(t, []E{x.E}, "\x01"+x.B, 0)
		list = append(list, x.E)
		b += x.B
		l.WritesAll(t, list, Uint(len(list))+b, 0)
	}
	x := l.Samples()[0]
	for _, n := range []int{127, 128, 1000} {
		l.WritesAll(t, slices.Repeat([]E{x.E}, n), Uint(n)+strings.Repeat(x.B, n), 0)
	}
}

// TestPutAllOfWrongOnes writes lists with what may not be at every place, and at all pairs of places.
func (l Layer[E]) TestPutAllOfWrongOnes(t T) {
	t.Helper()
	for _, bad := range l.Wrong() {
		l.WritesAll(t, []E{bad.E}, "", bad.Why)
		for first := range 4 {
			list := slices.Repeat(l.elements()[:1], 4)
			list[first] = bad.E
			l.WritesAll(t, list, "", bad.Why)
			for _, worse := range l.Wrong() {
				for second := first + 1; second < 4; second++ {
					two := slices.Clone(list)
					two[second] = worse.E
					l.WritesAll(t, two, "", bad.Why)
				}
			}
		}
	}
}

// TestMost reads and writes 10000 elements and one more; list has so many.
func (l Layer[E]) TestMost(t T, list []E) {
	t.Helper()
	all := l.All()
	var b strings.Builder
	for _, x := range list[:10000] {
		b.WriteString(l.ModelPut(x))
	}
	most, last, one := b.String(), l.ModelPut(list[9999]), l.ModelPut(list[10000])
	fewer := most[:len(most)-len(last)]
	l.WritesAll(t, list[:9999], "\x8f\x4e"+fewer, 0)
	l.WritesAll(t, list[:10000], "\x90\x4e"+most, 0)
	l.WritesAll(t, list, "", 29)
	l.WritesAll(t, slices.Repeat(list, 3), "", 29)
	all.Takes(t, "\x8f\x4e"+fewer, list[:9999], 2+len(fewer))
	all.Takes(t, "\x90\x4e"+most, list[:10000], 2+len(most))
	all.Refuses(t, "\x90\x4e"+most+one, 14, 2+len(most))
	all.Refuses(t, "\x90\x4e"+fewer, 2, 2+len(fewer))
	all.Refuses(t, "\x91\x4e"+most+one, 29, 0)
	all.Refuses(t, "\x91\x4e"+most, 29, 0)
	// The number counts ahead of what is wrong with an element.
	bad := l.Wrong()[0]
	first, second := slices.Clone(list), slices.Clone(list)
	first[0], second[10000] = bad.E, bad.E
	l.WritesAll(t, first, "", 29)
	l.WritesAll(t, second, "", 29)
	l.WritesAll(t, first[:10000], "", bad.Why)
	l.WritesAll(t, second[1:], "", bad.Why)
	l.WritesAll(t, second[:10000], "\x90\x4e"+most, 0)
}

// TestInverse reads what was written: the samples, and lists by chance.
func (l Layer[E]) TestInverse(t T) {
	t.Helper()
	l.ComeBack(t, nil)
	for _, x := range l.Samples() {
		l.ComeBack(t, []E{x.E})
	}
	next := Chance(3)
	for range 3000 {
		list := make([]E, next(8))
		for at := range list {
			list[at] = l.Any(next)
		}
		l.ComeBack(t, list)
	}
}
