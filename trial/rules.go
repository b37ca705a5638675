package trial

import (
	"bytes"
	"slices"
	"strings"

	"creel/abort"
	"creel/scan"
)

// TestManyBytes reads bytes by chance, of which many are small, and many bytes that are alike.
func (l Layer[E]) TestManyBytes(t T) {
	t.Helper()
	next := Chance(7)
	for range 6000 {
		b := make([]byte, next(20))
		for at := range b {
			b[at] = byte(next(256))
			if next(3) > 0 {
				b[at] = byte(next(4))
			}
		}
		l.One().Agrees(t, string(b))
		l.All().Agrees(t, string(b))
	}
	for x := range 256 {
		b := strings.Repeat(string([]byte{byte(x)}), 1000)
		l.One().Agrees(t, b)
		l.All().Agrees(t, b)
	}
}

// TestArguments hands in bytes and lists with room behind them: all of it stays.
func (l Layer[E]) TestArguments(t T) {
	t.Helper()
	room := []byte(Uint(len(l.Samples())))
	for _, x := range l.Samples() {
		room = append(room, x.B...)
	}
	whole := slices.Clone(room)
	for n := range len(room) + 1 {
		l.All().try(scan.Over(room[:n]))
		l.One().try(scan.Over(room[min(n, 1):n]))
	}
	if !bytes.Equal(room, whole) {
		t.Errorf("the bytes were % x and are % x", Short(whole), Short(room))
	}
	list := l.elements()
	for n := range len(list) + 1 {
		l.PutAll(list[:n])
		l.PutAll(list[n:])
		for _, x := range list[:n] {
			l.Right(x)
			l.Put(x)
		}
	}
	if !l.same(list, l.elements()) {
		t.Errorf("the list has changed")
	}
}

// TestKept spoils what was handed in: the results stay.
func (l Layer[E]) TestKept(t T) {
	t.Helper()
	for _, x := range l.Samples() {
		b := []byte("\x01" + x.B)
		one, _ := l.One().try(scan.Over(b[1:]))
		all, _ := l.All().try(scan.Over(b))
		// A scanner goes on with the bytes that it was made of.
		twice := []byte(x.B + x.B)
		s := scan.Over(twice)
		first, _ := l.One().try(s)
		Spoil(b, 0xee)
		Spoil(twice, 0xee)
		second, _ := l.One().try(s)
		if !l.same([]E{one, first, second}, []E{x.E, x.E, x.E}) || !l.same(all, []E{x.E}) {
			t.Errorf("Get: %+v, %+v, %+v, GetAll: %d, want %+v", l.Tell(one), l.Tell(first), l.Tell(second), len(all), l.Tell(x.E))
		}
		list := []E{x.E}
		put, _ := l.PutAll(list)
		Spoil(list, l.Other)
		if string(put) != "\x01"+x.B {
			t.Errorf("PutAll: % x", Short(put))
		}
	}
}

// TestNew spoils results: those of other calls stay.
func (l Layer[E]) TestNew(t T) {
	t.Helper()
	for _, x := range l.Samples() {
		for range 2 {
			b, _ := l.Put(x.E)
			if string(b) != x.B {
				t.Errorf("Put: % x, want % x", Short(b), Short(x.B))
			}
			all, _ := l.PutAll([]E{x.E})
			if string(all) != "\x01"+x.B {
				t.Errorf("PutAll: % x, want % x", Short(all), Short(x.B))
			}
			none, _ := l.PutAll(nil)
			if string(none) != "\x00" {
				t.Errorf("PutAll of none: % x", none)
			}
			Spoil(b, 0xee)
			Spoil(all, 0xee)
			Spoil(none, 0xee)
		}
		b := []byte("\x02" + x.B + x.B)
		first, _ := l.All().try(scan.Over(b))
		second, _ := l.All().try(scan.Over(b))
		Spoil(first, l.Other)
		third, _ := l.All().try(scan.Over(b))
		if want := []E{x.E, x.E}; !l.same(second, want) || !l.same(third, want) {
			t.Errorf("GetAll: %d and %d elements, want two of %+v", len(second), len(third), l.Tell(x.E))
		}
	}
}

// TestCalls looks at results behind calls with errors.
func (l Layer[E]) TestCalls(t T) {
	t.Helper()
	for _, x := range l.Samples() {
		for _, bad := range l.Wrong() {
			l.Right(bad.E)
			l.Put(bad.E)
			l.PutAll([]E{x.E, bad.E})
		}
		for _, bad := range l.Broken {
			abort.Out(func() { l.Get(scan.Over([]byte(bad.B))) })
			abort.Out(func() { l.GetAll(scan.Over([]byte("\x02" + x.B + bad.B))) })
		}
		l.Writes(t, x.E, x.B)
		l.WritesAll(t, []E{x.E}, "\x01"+x.B, 0)
		l.One().Takes(t, x.B, x.E, len(x.B))
		l.All().Takes(t, "\x01"+x.B, []E{x.E}, 1+len(x.B))
	}
}
