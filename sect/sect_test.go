package sect_test

import (
	"bytes"
	"slices"
	"strings"
	"testing"
	"unicode/utf8"

	"creel/abort"
	"creel/api"
	"creel/scan"
	"creel/sect"
	"creel/trial"
)

// The model is written from the chapters with numbers of its own: it takes bytes by their offsets, and asks no layer.

// head is what a module begins with.
const head = "\x00asm\x01\x00\x00\x00"

// modelIndex is a varint of 32 bits at an offset, and the offset behind it.
func modelIndex(b []byte, at int) (int, int, api.Errno) {
	v := uint64(0)
	for i := range 5 {
		if at+i == len(b) {
			return 0, 0, 2
		}
		x := uint64(b[at+i])
		v += x % 128 << (7 * i)
		if x < 128 {
			if v > 0xffffffff {
				return 0, 0, 3
			}
			return int(min(v, 1<<31-1)), at + i + 1, 0 // either is more than there ever is here
		}
	}
	return 0, 0, 3
}

// modelNext is P9.1: the section at an offset, and the offset behind it.
func modelNext(b []byte, at int) (sect.Section, int, abort.Stop) {
	if at == len(b) {
		return sect.Section{}, 0, abort.Stop{Why: 2, At: at}
	}
	if b[at] > 11 {
		return sect.Section{}, 0, abort.Stop{Why: 6, At: at}
	}
	n, from, e := modelIndex(b, at+1)
	if e != 0 {
		return sect.Section{}, 0, abort.Stop{Why: e, At: at + 1}
	}
	if n > len(b)-from {
		return sect.Section{}, 0, abort.Stop{Why: 2, At: from}
	}
	if b[at] == 0 {
		return modelCustom(b[:from+n], from)
	}
	return sect.Section{ID: b[at], Body: b[from : from+n], At: from}, from + n, abort.Stop{}
}

// modelCustom is a custom section that ends with some bytes and whose contents begin at an offset.
func modelCustom(b []byte, from int) (sect.Section, int, abort.Stop) {
	n, at, e := modelIndex(b, from)
	switch {
	case e != 0:
		return sect.Section{}, 0, abort.Stop{Why: e, At: from}
	case n > 200:
		return sect.Section{}, 0, abort.Stop{Why: 13, At: from}
	case n > len(b)-at:
		return sect.Section{}, 0, abort.Stop{Why: 2, At: at}
	case !utf8.Valid(b[at : at+n]):
		return sect.Section{}, 0, abort.Stop{Why: 4, At: at}
	}
	return sect.Section{Name: string(b[at : at+n]), Body: b[at+n:], At: at + n}, len(b), abort.Stop{}
}

// modelSplit is P9.2.
func modelSplit(b []byte) ([]sect.Section, abort.Stop) {
	switch {
	case len(b) > 1<<22:
		return nil, abort.Stop{Why: 13, At: 0}
	case len(b) < 8:
		return nil, abort.Stop{Why: 2, At: len(b)}
	case string(b[:8]) != head:
		return nil, abort.Stop{Why: 5, At: 0}
	}
	var list []sect.Section
	before := byte(0)
	for at := 8; at < len(b); {
		x, next, stop := modelNext(b, at)
		switch {
		case stop.Why != 0:
			return nil, stop
		case x.ID != 0 && x.ID <= before:
			return nil, abort.Stop{Why: 6, At: at}
		case len(list) == 10000:
			return nil, abort.Stop{Why: 29, At: at}
		}
		before = max(before, x.ID)
		list = append(list, x)
		at = next
	}
	return list, abort.Stop{}
}

// modelPut is P9.3's first sentence.
func modelPut(x sect.Section) string {
	body := string(x.Body)
	if x.ID == 0 {
		body = trial.Uint(len(x.Name)) + x.Name + body
	}
	return string([]byte{x.ID}) + trial.Uint(len(body)) + body
}

func modelJoin(list []sect.Section) string {
	s := head
	for _, x := range list {
		s += modelPut(x)
	}
	return s
}

// modelFind is P9.3's last sentence: where the section is, or -1.
func modelFind(list []sect.Section, id byte, name string) int {
	for at := range list {
		if list[at].ID != id {
			continue
		}
		if id != 0 || list[at].Name == name {
			return at
		}
	}
	return -1
}

// Checks.

func same(a, b sect.Section) bool {
	return a.ID == b.ID && a.Name == b.Name && bytes.Equal(a.Body, b.Body) && a.At == b.At
}

func isZero(x sect.Section) bool { return same(x, sect.Section{}) && len(x.Body) == 0 }

// try reads, and returns the error with which that aborts.
func try(s *scan.Scanner) (sect.Section, abort.Stop) {
	return abort.Value(func() sect.Section { return sect.Next(s) })
}

// checkNext checks that bytes begin with a section of so many bytes, whose At is the one in these bytes.
func checkNext(t *testing.T, b []byte, want sect.Section, n int) {
	t.Helper()
	for _, p := range trial.Places(b) {
		here := want
		here.At += p.At
		got, stop := try(p.S)
		if !same(got, here) || stop != (abort.Stop{}) {
			t.Errorf("Next of % x, %s: %v, %v, want %v", trial.Short(b), p.What, got, stop, here)
		}
		if p.S.At() != p.At+n || p.S.Left() != len(b)-n {
			t.Errorf("Next of % x, %s: then At %d and Left %d, want %d and %d", trial.Short(b), p.What, p.S.At(), p.S.Left(), p.At+n, len(b)-n)
		}
	}
}

// checkNoNext checks that bytes begin with no section, and why, and where.
func checkNoNext(t *testing.T, b []byte, why api.Errno, at int) {
	t.Helper()
	for _, p := range trial.Places(b) {
		got, stop := try(p.S)
		if !isZero(got) || stop != (abort.Stop{Why: why, At: p.At + at}) {
			t.Errorf("Next of % x, %s: %v, %v, want %d at %d", trial.Short(b), p.What, got, stop, why, p.At+at)
		}
	}
}

// checkNextModel checks that bytes begin with a section, or not, as the model says.
func checkNextModel(t *testing.T, b []byte) {
	t.Helper()
	want, n, stop := modelNext(b, 0)
	if stop.Why == 0 {
		checkNext(t, b, want, n)
	} else {
		checkNoNext(t, b, stop.Why, stop.At)
	}
}

func checkSplit(t *testing.T, b []byte, want []sect.Section) {
	t.Helper()
	got, stop := sect.Split(b)
	if stop != (abort.Stop{}) || !slices.EqualFunc(got, want, same) {
		t.Errorf("Split of % x (%d bytes): %d sections, %v, want %d sections", trial.Short(b), len(b), len(got), stop, len(want))
	}
}

func checkNoSplit(t *testing.T, b []byte, why api.Errno, at int) {
	t.Helper()
	got, stop := sect.Split(b)
	if len(got) != 0 || stop != (abort.Stop{Why: why, At: at}) {
		t.Errorf("Split of % x (%d bytes): %d sections, %v, want %d at %d", trial.Short(b), len(b), len(got), stop, why, at)
	}
}

func checkSplitModel(t *testing.T, b []byte) {
	t.Helper()
	want, stop := modelSplit(b)
	if stop.Why == 0 {
		checkSplit(t, b, want)
	} else {
		checkNoSplit(t, b, stop.Why, stop.At)
	}
}

func checkPut(t *testing.T, x sect.Section, want string) {
	t.Helper()
	if got := sect.Put(x); string(got) != want {
		t.Errorf("Put(%d, %q, %d bytes): % x, want % x", x.ID, x.Name, len(x.Body), trial.Short(got), trial.Short([]byte(want)))
	}
}

func checkJoin(t *testing.T, list []sect.Section, want string) {
	t.Helper()
	if got := sect.Join(list); string(got) != want {
		t.Errorf("Join of %d sections: % x, want % x", len(list), trial.Short(got), trial.Short([]byte(want)))
	}
}

// checkFind checks that the section at an index is found, or none for -1.
func checkFind(t *testing.T, list []sect.Section, id byte, name string, at int) {
	t.Helper()
	got, ok := sect.Find(list, id, name)
	want := sect.Section{}
	if at >= 0 {
		want = list[at]
	}
	if ok != (at >= 0) || !same(got, want) {
		t.Errorf("Find(%d, %q) in %d sections: %v, %v, want %v", id, name, len(list), got, ok, want)
	}
}

// plain is a section of a number, with a byte that tells it from others.
func plain(id, mark byte) sect.Section { return sect.Section{ID: id, Body: []byte{mark}} }

func custom(name string, body ...byte) sect.Section { return sect.Section{Name: name, Body: body} }

// samples are the bytes of a section each, and what they are.
func samples() []struct {
	b string
	x sect.Section
} {
	long, most := strings.Repeat("n", 127), strings.Repeat("n", 200)
	big := strings.Repeat("\x92", 16384)
	return []struct {
		b string
		x sect.Section
	}{
		{"\x01\x00", sect.Section{ID: 1, At: 2}},
		{"\x01\x01\x00", sect.Section{ID: 1, Body: []byte{0}, At: 2}},
		{"\x0b\x03\xff\x80\x01", sect.Section{ID: 11, Body: []byte{0xff, 0x80, 1}, At: 2}},
		{"\x0a\x82\x00\x05\x06", sect.Section{ID: 10, Body: []byte{5, 6}, At: 3}},
		{"\x0a\x82\x80\x80\x80\x00\x05\x06", sect.Section{ID: 10, Body: []byte{5, 6}, At: 6}},
		{"\x07\x80\x80\x80\x80\x00", sect.Section{ID: 7, At: 6}},
		{"\x03\x80\x80\x01" + big, sect.Section{ID: 3, Body: []byte(big), At: 4}},
		{"\x02\x7f" + big[:127], sect.Section{ID: 2, Body: []byte(big[:127]), At: 2}},
		{"\x02\x80\x01" + big[:128], sect.Section{ID: 2, Body: []byte(big[:128]), At: 3}},
		{"\x00\x01\x00", sect.Section{At: 3}},
		{"\x00\x02\x00\x92", sect.Section{Body: []byte{0x92}, At: 3}},
		{"\x00\x03\x00\x01a", sect.Section{Body: []byte{1, 'a'}, At: 3}},
		{"\x00\x02\x01a", sect.Section{Name: "a", At: 4}},
		{"\x00\x05\x01a\x01b\xff", sect.Section{Name: "a", Body: []byte{1, 'b', 0xff}, At: 4}},
		{"\x00\x04\x03\xe2\x82\xac", sect.Section{Name: "\u20ac", At: 6}},
		{"\x00\x04\x81\x00a\xe2", sect.Section{Name: "a", Body: []byte{0xe2}, At: 5}},
		{"\x00\x84\x00\x81\x00a\xe2", sect.Section{Name: "a", Body: []byte{0xe2}, At: 6}},
		{"\x00\x06\x80\x80\x80\x80\x00\x0b", sect.Section{Body: []byte{0x0b}, At: 7}},
		{"\x00\x0b\x08dylink.0\x01\x02", sect.Section{Name: "dylink.0", Body: []byte{1, 2}, At: 11}},
		{"\x00\x05\x04\x00\x7f\n\"", sect.Section{Name: "\x00\x7f\n\"", At: 7}},
		{"\x00\x80\x01\x7f" + long, sect.Section{Name: long, At: 131}},
		{"\x00\xca\x01\xc8\x01" + most, sect.Section{Name: most, At: 205}},
		{"\x00\xcb\x01\xc8\x01" + most + "n", sect.Section{Name: most, Body: []byte{'n'}, At: 205}},
		{"\x00\x83\x80\x01\x02ab" + big, sect.Section{Name: "ab", Body: []byte(big), At: 7}},
	}
}

// P9.1

func TestNumbersOfSections(t *testing.T) {
	all := []int{sect.Custom, sect.Type, sect.Import, sect.Func, sect.Table, sect.Mem, sect.Global, sect.Export, sect.Start, sect.Elem, sect.Code, sect.Data}
	for want, got := range all {
		if got != want {
			t.Errorf("%d, want %d", got, want)
		}
	}
	if sect.Head != head || len(sect.Head) != 8 {
		t.Errorf("Head: %q", sect.Head)
	}
}

func TestNext(t *testing.T) {
	for _, x := range samples() {
		checkNext(t, []byte(x.b), x.x, len(x.b))
	}
}

// TestNextStopsBehindTheSection: whatever is behind it is left, also what would go on with a varint or a name.
func TestNextStopsBehindTheSection(t *testing.T) {
	for _, x := range samples() {
		for more := range 256 {
			checkNext(t, append([]byte(x.b), byte(more)), x.x, len(x.b))
		}
		checkNext(t, []byte(x.b+x.b), x.x, len(x.b))
	}
}

func TestNextOfNoBytes(t *testing.T) {
	checkNoNext(t, nil, 2, 0)
	checkNoNext(t, []byte{}, 2, 0)
}

// TestEveryNumber has all bytes as a section's number, also with errors behind it: the number counts first.
func TestEveryNumber(t *testing.T) {
	for id := range 256 {
		b := byte(id)
		switch {
		case id == 0:
			checkNext(t, []byte{b, 2, 1, 'a'}, sect.Section{Name: "a", At: 4}, 4)
		case id <= 11:
			checkNext(t, []byte{b, 2, 1, 'a'}, sect.Section{ID: b, Body: []byte{1, 'a'}, At: 2}, 4)
			checkNext(t, []byte{b, 0}, sect.Section{ID: b, At: 2}, 2)
		default:
			checkNoNext(t, []byte{b, 2, 1, 'a'}, 6, 0)
			checkNoNext(t, []byte{b, 0}, 6, 0)
			checkNoNext(t, []byte{b}, 6, 0)
			checkNoNext(t, []byte{b, 0xff, 0xff, 0xff, 0xff, 0xff}, 6, 0)
			checkNoNext(t, []byte{b, 5, 1}, 6, 0)
		}
	}
}

// TestCutOff cuts sections off at every place (long ones at many): the error is at the part that is not whole.
func TestCutOff(t *testing.T) {
	for _, x := range samples() {
		checkCutOff(t, x.b, 0)
		for n := 1; n < len(x.b); n += max(1, len(x.b)/300) {
			checkCutOff(t, x.b, n)
		}
		checkCutOff(t, x.b, len(x.b)-1)
	}
}

// checkCutOff checks that of a section so many bytes, and no more, are none.
func checkCutOff(t *testing.T, b string, n int) {
	t.Helper()
	_, from, _ := modelIndex([]byte(b), 1)
	at := from
	switch {
	case n == 0:
		at = 0
	case n < from:
		at = 1
	}
	checkNoNext(t, []byte(b[:n]), 2, at)
}

// TestOneByteMore has lengths that are greater than what follows: no byte of it is looked at, not even a name's.
func TestOneByteMore(t *testing.T) {
	for id := range 12 {
		b := byte(id)
		checkNoNext(t, []byte{b, 1}, 2, 2)
		checkNoNext(t, []byte{b, 3, 1, 'a'}, 2, 2)
		checkNoNext(t, []byte{b, 0x83, 0x00, 1, 'a'}, 2, 3)
		checkNoNext(t, []byte{b, 0x83, 0x80, 0x80, 0x80, 0x00, 1, 'a'}, 2, 6)
		checkNoNext(t, []byte{b, 3, 0xc9, 0x01}, 2, 2)
		checkNoNext(t, []byte{b, 3, 1, 0xff}, 2, 2)
		checkNoNext(t, append([]byte{b, 0x80, 0x01}, make([]byte, 127)...), 2, 3)
		// Numbers that would be negative if they had a sign.
		checkNoNext(t, []byte{b, 0xff, 0xff, 0xff, 0xff, 0x07, 1, 'a'}, 2, 6)
		checkNoNext(t, []byte{b, 0x80, 0x80, 0x80, 0x80, 0x08, 1, 'a'}, 2, 6)
		checkNoNext(t, []byte{b, 0xff, 0xff, 0xff, 0xff, 0x0f, 1, 'a'}, 2, 6)
		checkNoNext(t, []byte{b, 0xff, 0xff, 0xff, 0xff, 0x0f}, 2, 6)
	}
}

func TestWrongLengths(t *testing.T) {
	for id := range 12 {
		for _, s := range []string{
			"\x80\x80\x80\x80\x10",     // 2^32
			"\xff\xff\xff\xff\x1f",     // 2^33 - 1
			"\xff\xff\xff\xff\x7f",     // 2^35 - 1
			"\x80\x80\x80\x80\x80\x00", // 0, in 6 bytes
			"\x82\x80\x80\x80\x80\x00", // 2, in 6 bytes
			"\xff\xff\xff\xff\xff",
		} {
			b := []byte{byte(id)}
			checkNoNext(t, append(slices.Clip(b), s...), 3, 1)
			checkNoNext(t, append(slices.Clip(b), s+"\x01a"...), 3, 1)
		}
	}
}

func TestLengthOfNought(t *testing.T) {
	for id := 1; id < 12; id++ {
		checkNext(t, []byte{byte(id), 0}, sect.Section{ID: byte(id), At: 2}, 2)
		checkNext(t, []byte{byte(id), 0, 1, 'a'}, sect.Section{ID: byte(id), At: 2}, 2)
		checkNext(t, []byte{byte(id), 0x80, 0x00, 1, 'a'}, sect.Section{ID: byte(id), At: 3}, 3)
	}
	// A custom section has no room for the length of its name then, whatever is behind it.
	checkNoNext(t, []byte{0, 0}, 2, 2)
	checkNoNext(t, []byte{0, 0, 1, 'a'}, 2, 2)
	checkNoNext(t, []byte{0, 0x80, 0x00, 1, 'a'}, 2, 3)
}

// TestNameTooLong has lengths above the limit, whether or not the bytes are there.
func TestNameTooLong(t *testing.T) {
	full := strings.Repeat("n", 201)
	checkNoNext(t, []byte("\x00\xcb\x01\xc9\x01"+full), 13, 3)
	checkNoNext(t, []byte("\x00\xcc\x01\xc9\x01"+full+"n"), 13, 3)
	checkNoNext(t, []byte("\x00\xcb\x01\xc9\x01"+full[:200]+"\xff"), 13, 3)
	checkNoNext(t, []byte("\x00\x02\xc9\x01"), 13, 2)
	checkNoNext(t, []byte("\x00\x02\xff\x7f"), 13, 2)
	checkNoNext(t, []byte("\x00\x05\xff\xff\xff\xff\x0f"), 13, 2)
	checkNoNext(t, []byte("\x00\x85\x00\xff\xff\xff\xff\x0f"), 13, 3)
	// 200 bytes may be.
	checkNext(t, []byte("\x00\xca\x01\xc8\x01"+full[:200]), sect.Section{Name: full[:200], At: 205}, 205)
}

// TestNameNotUTF8: the error is at the name's first byte, wherever in it the wrong one is.
func TestNameNotUTF8(t *testing.T) {
	for _, name := range []string{"\x80", "\xff", "\xc0\x80", "\xe2\x82", "\xed\xa0\x80", "\xf4\x90\x80\x80", "a\xff", "abc\xe2\x82", "\u20ac\xff", "\xffabc"} {
		for _, more := range []string{"", "\x00", "\xac\x80\x80", "abc"} {
			body := trial.Uint(len(name)) + name + more
			checkNoNext(t, []byte("\x00"+trial.Uint(len(body))+body), 4, 3)
			checkNoNext(t, []byte("\x00"+trial.Uint(len(body))+body+"\x80\x80"), 4, 3)
		}
	}
	// The length of the name, and that of the section, in more bytes than they need.
	checkNoNext(t, []byte("\x00\x03\x81\x00\xff"), 4, 4)
	checkNoNext(t, []byte("\x00\x82\x00\x01\xff"), 4, 4)
	long := strings.Repeat("n", 199) + "\xff"
	checkNoNext(t, []byte("\x00\xca\x01\xc8\x01"+long), 4, 5)
}

// TestNameLongerThanTheSection: the bytes behind the section are none of the name's.
func TestNameLongerThanTheSection(t *testing.T) {
	checkNoNext(t, []byte("\x00\x01\x01"), 2, 3)
	checkNoNext(t, []byte("\x00\x01\x01a"), 2, 3)
	checkNoNext(t, []byte("\x00\x03\x03ab"), 2, 3)
	checkNoNext(t, []byte("\x00\x03\x03abc"), 2, 3)
	checkNoNext(t, []byte("\x00\x03\x03a\xff"), 2, 3)
	checkNoNext(t, []byte("\x00\x02\xc8\x01"+strings.Repeat("n", 200)), 2, 4)
	checkNoNext(t, []byte("\x00\xc9\x01\xc8\x01"+strings.Repeat("n", 200)), 2, 5)
	// Nor are they those of its length.
	checkNoNext(t, []byte("\x00\x01\x80\x00"), 2, 2)
	checkNoNext(t, []byte("\x00\x01\x81\x00a"), 2, 2)
	checkNoNext(t, []byte("\x00\x04\x80\x80\x80\x80\x00"), 2, 2)
}

func TestWrongLengthsOfNames(t *testing.T) {
	checkNoNext(t, []byte("\x00\x05\x80\x80\x80\x80\x10"), 3, 2)
	checkNoNext(t, []byte("\x00\x05\xff\xff\xff\xff\x7f"), 3, 2)
	checkNoNext(t, []byte("\x00\x06\x80\x80\x80\x80\x80\x00"), 3, 2)
	checkNoNext(t, []byte("\x00\x86\x00\x80\x80\x80\x80\x80\x00"), 3, 3)
	checkNoNext(t, []byte("\x00\x07\x81\x80\x80\x80\x80\x00a"), 3, 2)
}

// TestNameFillsTheSection: the Body is empty, and begins where the section ends.
func TestNameFillsTheSection(t *testing.T) {
	for n := range 201 {
		name := strings.Repeat("n", n)
		body := trial.Uint(n) + name
		b := "\x00" + trial.Uint(len(body)) + body
		checkNext(t, []byte(b), sect.Section{Name: name, At: len(b)}, len(b))
		checkNext(t, []byte(b+"\x01"), sect.Section{Name: name, At: len(b)}, len(b))
	}
}

// TestOtherSectionsHaveNoName: what stands where a name would is not looked at.
func TestOtherSectionsHaveNoName(t *testing.T) {
	for id := 1; id < 12; id++ {
		for _, body := range []string{"\x01a", "\x01\xff", "\xc9\x01", "\x80", "\x05a", "\xff\xff\xff\xff\xff"} {
			b := string([]byte{byte(id)}) + trial.Uint(len(body)) + body
			checkNext(t, []byte(b), sect.Section{ID: byte(id), Body: []byte(body), At: 2}, len(b))
		}
	}
}

// TestNextInTurn has sections behind each other, read by one scanner: it does not ask for an order.
func TestNextInTurn(t *testing.T) {
	var all []byte
	for _, x := range samples() {
		all = append(all, x.b...)
	}
	s := scan.Over(all)
	at := 0
	for _, x := range samples() {
		want := x.x
		want.At += at
		at += len(x.b)
		if got, stop := try(s); !same(got, want) || stop != (abort.Stop{}) || s.At() != at {
			t.Errorf("Next: %v, %v, then At %d, want %v, then %d", got, stop, s.At(), want, at)
		}
	}
	if got, stop := try(s); !isZero(got) || stop != (abort.Stop{Why: 2, At: len(all)}) {
		t.Errorf("Next behind the last one: %v, %v", got, stop)
	}
}

// TestAllShortSections tries the strings of the bytes that mean something.
func TestAllShortSections(t *testing.T) {
	alphabet := []byte{0x00, 0x01, 0x02, 0x03, 0x0b, 0x0c, 'a', 0x7f, 0x80, 0xff}
	for n := range 6 {
		trial.Words(alphabet, n, func(b []byte) { checkNextModel(t, b) })
	}
}

// P9.2

// TestExample is the chapter's.
func TestExample(t *testing.T) {
	checkSplit(t, []byte(sect.Head), nil)
}

func TestSplitOfNoBytes(t *testing.T) {
	checkNoSplit(t, nil, 2, 0)
	checkNoSplit(t, []byte{}, 2, 0)
}

// TestHeadCutOff: too few bytes count ahead of what they are.
func TestHeadCutOff(t *testing.T) {
	for n := range 8 {
		checkNoSplit(t, []byte(head[:n]), 2, n)
		checkNoSplit(t, bytes.Repeat([]byte{0xff}, n), 2, n)
	}
}

// TestHeadChanged has all other values of every byte of it, alone and with sections, right and wrong ones, behind it.
func TestHeadChanged(t *testing.T) {
	for at := range 8 {
		for x := range 256 {
			b := []byte(head)
			if b[at] == byte(x) {
				continue
			}
			b[at] = byte(x)
			checkNoSplit(t, b, 5, 0)
			checkNoSplit(t, append(slices.Clip(b), 1, 0), 5, 0)
			checkNoSplit(t, append(slices.Clip(b), 12), 5, 0)
		}
	}
	checkNoSplit(t, []byte("asm\x00\x01\x00\x00\x00"), 5, 0)
	checkNoSplit(t, []byte("\x00\x00asm\x01\x00\x00\x00"), 5, 0)
	checkNoSplit(t, []byte("\x00asm\x01\x00\x00\x01\x00"), 5, 0)
}

// TestNoSection has Head and bytes that are no section, with the errors of Next at their offsets in the module.
func TestNoSection(t *testing.T) {
	for x := range 256 {
		if x <= 11 {
			checkNoSplit(t, append([]byte(head), byte(x)), 2, 9)
			continue
		}
		checkNoSplit(t, append([]byte(head), byte(x)), 6, 8)
		checkNoSplit(t, append([]byte(head), byte(x), 0), 6, 8)
		checkNoSplit(t, append([]byte(head), 1, 1, 0, byte(x)), 6, 11)
	}
	checkNoSplit(t, []byte(head+"\x00\x00"), 2, 10)
	checkNoSplit(t, []byte(head+"\x01\x01"), 2, 10)
	checkNoSplit(t, []byte(head+"\x01\xff\xff\xff\xff\xff"), 3, 9)
	checkNoSplit(t, []byte(head+"\x00\x03\x01\xff\x00"), 4, 11)
	checkNoSplit(t, []byte(head+"\x00\x03\xc9\x01\x00"), 13, 10)
	checkNoSplit(t, []byte(head+"\x00\x03\x05ab"), 2, 11)
	checkNoSplit(t, []byte(head+head), 2, 10) // it begins like a custom section of 97 bytes
}

// TestOffsetsInTheModule has the same errors behind sections of several lengths.
func TestOffsetsInTheModule(t *testing.T) {
	for _, n := range []int{0, 1, 127, 128, 1000, 16383, 16384, 100000} {
		lead := head + modelPut(sect.Section{ID: 1, Body: make([]byte, n)})
		at := len(lead)
		for _, more := range []string{"", modelPut(custom("ab", 1, 2, 3))} {
			at += len(more)
			lead += more
			checkNoSplit(t, []byte(lead+"\x0c"), 6, at)
			checkNoSplit(t, []byte(lead+"\x02"), 2, at+1)
			checkNoSplit(t, []byte(lead+"\x02\x80"), 2, at+1)
			checkNoSplit(t, []byte(lead+"\x02\x01"), 2, at+2)
			checkNoSplit(t, []byte(lead+"\x01\x01\x00"), 6, at)
			checkNoSplit(t, []byte(lead+"\x00\x00"), 2, at+2)
			checkNoSplit(t, []byte(lead+"\x00\x03\xc9\x01a"), 13, at+2)
			checkNoSplit(t, []byte(lead+"\x00\x03\x05ab"), 2, at+3)
			checkNoSplit(t, []byte(lead+"\x00\x03\x01\xffb"), 4, at+3)
			checkNoSplit(t, []byte(lead+"\x00\x05\x80\x80\x80\x80\x10"), 3, at+2)
			checkSplitModel(t, []byte(lead+"\x00\x04\x01a\x05\x06\x0b\x01\x07"))
		}
	}
}

// TestMostBytes has a module of 2^22 bytes and one of a byte more, whatever they are.
func TestMostBytes(t *testing.T) {
	lead := head + "\x0b\xf3\xff\xff\x01"
	b := append([]byte(lead), make([]byte, 1<<22-len(lead))...)
	checkSplit(t, b, []sect.Section{{ID: 11, Body: b[13:], At: 13}})
	checkNoSplit(t, append(slices.Clip(b), 0), 13, 0)
	b[9]++ // the section is a byte longer than what follows
	checkNoSplit(t, b, 2, 13)
	checkNoSplit(t, append(slices.Clip(b), 0), 13, 0)

	lead = head + "\x00\xf3\xff\xff\x01\x01a"
	b = append([]byte(lead), make([]byte, 1<<22-len(lead))...)
	checkSplit(t, b, []sect.Section{{Name: "a", Body: b[15:], At: 15}})
	checkNoSplit(t, append(slices.Clip(b), 0), 13, 0)

	// Too many bytes count ahead of a wrong head.
	for _, x := range []byte{0x00, 0x01, 0xff} {
		b := bytes.Repeat([]byte{x}, 1<<22+1)
		checkNoSplit(t, b, 13, 0)
		checkNoSplit(t, b[1:], 5, 0)
	}
}

func TestSectionsInOrder(t *testing.T) {
	list := []sect.Section{}
	b := []byte(head)
	for id := 1; id < 12; id++ {
		b = append(b, byte(id), 2, byte(id), 0xff)
		list = append(list, sect.Section{ID: byte(id), Body: []byte{byte(id), 0xff}, At: len(b) - 2})
		checkSplit(t, b, list)
		checkSplit(t, append([]byte(head), b[len(b)-4:]...), []sect.Section{{ID: byte(id), Body: []byte{byte(id), 0xff}, At: 10}})
	}
}

// TestEqualAndFallingNumbers has all pairs of numbers, also with a custom section, or two, between them.
func TestEqualAndFallingNumbers(t *testing.T) {
	for _, between := range []string{"", "\x00\x02\x01a", "\x00\x01\x00\x00\x02\x01a"} {
		for first := 1; first < 12; first++ {
			for second := 1; second < 12; second++ {
				b := []byte(head + string([]byte{byte(first), 1, 7}) + between + string([]byte{byte(second), 1, 8}))
				checkSplitModel(t, b)
				_, stop := sect.Split(b)
				if second > first && stop.Why != 0 {
					t.Errorf("%d and %d: %v", first, second, stop)
				}
				if second <= first && stop != (abort.Stop{Why: 6, At: 11 + len(between)}) {
					t.Errorf("%d and %d: %v", first, second, stop)
				}
			}
		}
	}
}

// TestAllOrders has all lists of up to four numbers: the preceding one of each counts, not the first.
func TestAllOrders(t *testing.T) {
	all := []byte{0, 1, 2, 3, 4, 5, 6, 7, 8, 9, 10, 11}
	for n := range 5 {
		trial.Words(all, n, func(ids []byte) {
			b := []byte(head)
			for at, id := range ids {
				b = append(b, modelPut(plain(id, byte(at)))...)
			}
			checkSplitModel(t, b)
		})
	}
}

func TestCustomSectionsAlone(t *testing.T) {
	checkSplit(t, []byte(head+"\x00\x01\x00"), []sect.Section{{At: 11}})
	checkSplit(t, []byte(head+"\x00\x03\x01a\x05\x00\x01\x00\x00\x03\x01a\x05\x00\x03\x01a\x06"), []sect.Section{
		{Name: "a", Body: []byte{5}, At: 12},
		{At: 16},
		{Name: "a", Body: []byte{5}, At: 20},
		{Name: "a", Body: []byte{6}, At: 25},
	})
}

func TestCustomSectionsBetweenOthers(t *testing.T) {
	checkSplit(t, []byte(head+"\x00\x02\x01a\x01\x01\x07\x00\x02\x01a\x00\x03\x01b\x08\x0b\x00\x00\x02\x01a"), []sect.Section{
		{Name: "a", At: 12},
		{ID: 1, Body: []byte{7}, At: 14},
		{Name: "a", At: 19},
		{Name: "b", Body: []byte{8}, At: 23},
		{ID: 11, At: 26},
		{Name: "a", At: 30},
	})
}

// TestMostSections has 10000 of them and one more, with what is wrong in that one, and behind it.
func TestMostSections(t *testing.T) {
	b := []byte(head + strings.Repeat("\x00\x01\x00", 9997) + "\x01\x00\x02\x01\x05\x0b\x00")
	at := len(b)
	got, stop := sect.Split(b)
	if len(got) != 10000 || stop != (abort.Stop{}) {
		t.Fatalf("%d sections, %v", len(got), stop)
	}
	checkSplitModel(t, b)
	b = slices.Clip(b)
	checkNoSplit(t, append(b, "\x00\x01\x00"...), 29, at)
	checkNoSplit(t, append(b, "\x00\x01\x00\x0c"...), 29, at)
	checkNoSplit(t, append(b, "\x00\x01\x00\x00\x01\x00"...), 29, at)
	checkNoSplit(t, append(b, "\x0c"...), 6, at)
	checkNoSplit(t, append(b, "\x00"...), 2, at+1)
	checkNoSplit(t, append(b, "\x00\x02\x01\xff"...), 4, at+3)
	checkNoSplit(t, append(b, "\x0b\x00"...), 6, at)
	checkNoSplit(t, append(b, "\x0a\x00\x00\x01\x00"...), 6, at)

	b = slices.Clip([]byte(head + strings.Repeat("\x00\x01\x00", 10000)))
	at = len(b)
	checkSplitModel(t, b)
	checkSplitModel(t, b[:at-3])
	checkNoSplit(t, append(b, "\x00\x01\x00"...), 29, at)
	checkNoSplit(t, append(b, "\x0b\x01\x00"...), 29, at)
	checkNoSplit(t, append(b, strings.Repeat("\x00\x01\x00", 100000)...), 29, at)
}

// TestTheFirstErrorCounts has several in one module.
func TestTheFirstErrorCounts(t *testing.T) {
	// In one section, what is wrong in it counts ahead of the order.
	checkNoSplit(t, []byte(head+"\x05\x00\x05"), 2, 11)
	checkNoSplit(t, []byte(head+"\x05\x00\x04\x80"), 2, 11)
	checkNoSplit(t, []byte(head+"\x05\x00\x04\x02\x00"), 2, 12)
	checkNoSplit(t, []byte(head+"\x05\x00\x04\xff\xff\xff\xff\x7f"), 3, 11)
	// In several, the first one does.
	checkNoSplit(t, []byte(head+"\x05\x00\x04\x00\x0c\x00"), 6, 10)
	checkNoSplit(t, []byte(head+"\x05\x00\x04\x00\x03\x00"), 6, 10)
	checkNoSplit(t, []byte(head+"\x05\x00\x04\x00\x06\x05"), 6, 10)
	checkNoSplit(t, []byte(head+"\x05\x00\x00\x02\x01\xff\x04\x00"), 4, 13)
	checkNoSplit(t, []byte(head+"\x00\x01\x01\x00\x02\x01\xff"), 2, 11)
	checkNoSplit(t, []byte(head+"\x0c\x0d"), 6, 8)
	checkNoSplit(t, []byte("\x01asm\x01\x00\x00\x00\x0c"), 5, 0)
	checkNoSplit(t, []byte("\x01asm\x01\x00\x00"), 2, 7)
}

// TestModulesCutOff cuts a module off at every place: where a section ends, it is whole.
func TestModulesCutOff(t *testing.T) {
	b := []byte(head + "\x00\x0b\x08dylink.0\x01\x02\x01\x04\x01\x60\x00\x00\x03\x82\x00\x01\x00\x00\x01\x00\x0a\x01\x05")
	whole := 0
	for n := range len(b) + 1 {
		checkSplitModel(t, b[:n])
		if _, stop := sect.Split(b[:n]); stop.Why == 0 {
			whole++
		}
	}
	if whole != 6 { // Head, and what ends with one of the five sections
		t.Errorf("%d parts are whole", whole)
	}
}

// TestEveryByteChanged changes a module's bytes, one at a time, to every value.
func TestEveryByteChanged(t *testing.T) {
	good := []byte(head + "\x00\x05\x01a\x01\x02\x03\x01\x03\x01\x02\x03\x00\x04\x02\xc3\xa9\x05\x0b\x00")
	for at := range good {
		for x := range 256 {
			b := slices.Clone(good)
			b[at] = byte(x)
			checkSplitModel(t, b)
		}
	}
}

// TestAllShortModules tries the strings of the bytes that mean something, behind Head.
func TestAllShortModules(t *testing.T) {
	alphabet := []byte{0x00, 0x01, 0x02, 0x03, 0x0b, 0x0c, 0x80, 0xff}
	for n := range 7 {
		trial.Words(alphabet, n, func(b []byte) { checkSplitModel(t, append([]byte(head), b...)) })
	}
}

// P9.3

func TestPut(t *testing.T) {
	checkPut(t, sect.Section{ID: 1}, "\x01\x00")
	checkPut(t, sect.Section{ID: 1, Body: []byte{}}, "\x01\x00")
	checkPut(t, sect.Section{ID: 11, Body: []byte{5, 6}}, "\x0b\x02\x05\x06")
	checkPut(t, sect.Section{}, "\x00\x01\x00")
	checkPut(t, sect.Section{Body: []byte{5, 6}}, "\x00\x03\x00\x05\x06")
	checkPut(t, sect.Section{Name: "a"}, "\x00\x02\x01a")
	checkPut(t, sect.Section{Name: "dylink.0", Body: []byte{1, 2}}, "\x00\x0b\x08dylink.0\x01\x02")
	// The place does not count.
	checkPut(t, sect.Section{ID: 3, Body: []byte{5}, At: 77}, "\x03\x01\x05")
	checkPut(t, sect.Section{Name: "a", Body: []byte{5}, At: -1}, "\x00\x03\x01a\x05")
}

// TestPutOfEveryNumber: a Name counts only in a custom section, also where there is no section of the number.
func TestPutOfEveryNumber(t *testing.T) {
	for id := range 256 {
		for _, name := range []string{"", "a", "\u20ac", "\xff", strings.Repeat("n", 300)} {
			for _, n := range []int{0, 1, 127, 128} {
				x := sect.Section{ID: byte(id), Name: name, Body: bytes.Repeat([]byte{0x92}, n)}
				checkPut(t, x, modelPut(x))
			}
		}
	}
	checkPut(t, sect.Section{ID: 1, Name: "a", Body: []byte{5}}, "\x01\x01\x05")
	checkPut(t, sect.Section{ID: 12, Name: "a", Body: []byte{5}}, "\x0c\x01\x05")
	checkPut(t, sect.Section{ID: 255, Name: "a"}, "\xff\x00")
}

func TestPutOfLongBodies(t *testing.T) {
	for _, x := range []struct {
		n            int
		size, custom string // the lengths of the contents without a name, and with one of two bytes
	}{
		{124, "\x7c", "\x7f"},
		{125, "\x7d", "\x80\x01"},
		{126, "\x7e", "\x81\x01"},
		{127, "\x7f", "\x82\x01"},
		{128, "\x80\x01", "\x83\x01"},
		{16380, "\xfc\x7f", "\xff\x7f"},
		{16381, "\xfd\x7f", "\x80\x80\x01"},
		{16383, "\xff\x7f", "\x82\x80\x01"},
		{16384, "\x80\x80\x01", "\x83\x80\x01"},
	} {
		body := bytes.Repeat([]byte{0x80}, x.n)
		checkPut(t, sect.Section{ID: 10, Body: body}, "\x0a"+x.size+string(body))
		checkPut(t, sect.Section{Name: "ab", Body: body}, "\x00"+x.custom+"\x02ab"+string(body))
	}
	// The length of the name goes with the contents, too.
	long := strings.Repeat("n", 128)
	checkPut(t, sect.Section{Name: long[:126]}, "\x00\x7f\x7e"+long[:126])
	checkPut(t, sect.Section{Name: long[:127]}, "\x00\x80\x01\x7f"+long[:127])
	checkPut(t, sect.Section{Name: long}, "\x00\x82\x01\x80\x01"+long)
}

func TestJoin(t *testing.T) {
	checkJoin(t, nil, head)
	checkJoin(t, []sect.Section{}, head)
	checkJoin(t, []sect.Section{{}}, head+"\x00\x01\x00")
	checkJoin(t, []sect.Section{{ID: 1, Name: "a", Body: []byte{5}}}, head+"\x01\x01\x05")
	checkJoin(t, []sect.Section{custom("a", 9), plain(1, 5), {ID: 2}, custom("b"), plain(11, 6)},
		head+"\x00\x03\x01a\x09\x01\x01\x05\x02\x00\x00\x02\x01b\x0b\x01\x06")
	// It does not ask whether Split would take them.
	checkJoin(t, []sect.Section{plain(5, 1), plain(5, 2), plain(4, 3), plain(12, 4), custom("\xff")},
		head+"\x05\x01\x01\x05\x01\x02\x04\x01\x03\x0c\x01\x04\x00\x02\x01\xff")
	many := make([]sect.Section, 10001)
	checkJoin(t, many, head+strings.Repeat("\x00\x01\x00", 10001))
	big := []sect.Section{{ID: 1, Body: bytes.Repeat([]byte{0x92}, 1<<22)}, {ID: 2, Body: []byte{1}}}
	checkJoin(t, big, modelJoin(big))
}

func TestFindInAnEmptyList(t *testing.T) {
	for id := range 256 {
		checkFind(t, nil, byte(id), "", -1)
		checkFind(t, []sect.Section{}, byte(id), "a", -1)
	}
}

func TestFind(t *testing.T) {
	list := []sect.Section{
		{ID: 1, Body: []byte{1}, At: 10},
		{Name: "a", Body: []byte{2}, At: 20},
		{ID: 5, Name: "b", Body: []byte{3}, At: 30},
		{Name: "b", Body: []byte{4}, At: 40},
		{ID: 5, Name: "c", Body: []byte{5}, At: 50},
		{Name: "a", Body: []byte{6}, At: 60},
		{ID: 1, At: 70},
		{Name: "\xff", Body: []byte{8}, At: 80},
		{ID: 200, Name: "d", At: 90},
		{At: 100},
		{ID: 11},
	}
	// A number alone, whatever the name.
	for _, name := range []string{"", "a", "b", "c", "d", "\xff", "x"} {
		checkFind(t, list, 1, name, 0)
		checkFind(t, list, 5, name, 2)
		checkFind(t, list, 11, name, 10)
		checkFind(t, list, 200, name, 8)
		checkFind(t, list, 2, name, -1)
		checkFind(t, list, 12, name, -1)
	}
	// A custom section by its name.
	checkFind(t, list, 0, "a", 1)
	checkFind(t, list, 0, "b", 3)
	checkFind(t, list, 0, "\xff", 7)
	checkFind(t, list, 0, "", 9)
	// A name that no custom section has, though others have it.
	for _, name := range []string{"c", "d", "x", "A", "a ", "aa", "ab", "\xff\xff", "dylink.0"} {
		checkFind(t, list, 0, name, -1)
	}
	checkFind(t, list[:9], 0, "", -1)
	checkFind(t, list[2:], 0, "a", 3)
	checkFind(t, list[:3], 0, "b", -1)
}

// TestFindEverything asks for all numbers and names in all lists of three.
func TestFindEverything(t *testing.T) {
	names := []string{"", "a", "b"}
	trial.Words([]byte{0, 1, 2, 3, 4, 5}, 3, func(w []byte) {
		var list []sect.Section
		for at, x := range w {
			list = append(list, sect.Section{ID: x / 3, Name: names[x%3], Body: []byte{byte(at)}, At: at})
		}
		for id := range byte(3) {
			for _, name := range append(names, "ab") {
				checkFind(t, list, id, name, modelFind(list, id, name))
			}
		}
	})
}

// P9.4

// TestSplitInvertsJoin has lists with rising numbers and custom sections among them; the offsets are those of the bytes.
func TestSplitInvertsJoin(t *testing.T) {
	names := []string{"", "a", "dylink.0", "\u20ac", strings.Repeat("n", 127), strings.Repeat("n", 200)}
	sizes := []int{0, 1, 2, 125, 126, 127, 128, 300, 16383, 16384}
	next := trial.Chance(1)
	for range 2000 {
		var list []sect.Section
		for id := 1; id < 12; id++ {
			for next(3) == 0 {
				list = append(list, sect.Section{Name: names[next(len(names))], Body: bytes.Repeat([]byte{byte(next(256))}, sizes[next(len(sizes))])})
			}
			if next(2) == 0 {
				list = append(list, sect.Section{ID: byte(id), Body: bytes.Repeat([]byte{byte(next(256))}, sizes[next(len(sizes))])})
			}
		}
		checkComesBack(t, list)
	}
	checkComesBack(t, nil)
	checkComesBack(t, make([]sect.Section, 10000))
}

// checkComesBack checks that Split of the result of Join returns the sections, and that their offsets are right.
func checkComesBack(t *testing.T, list []sect.Section) {
	t.Helper()
	b := sect.Join(list)
	got, stop := sect.Split(b)
	if stop != (abort.Stop{}) || len(got) != len(list) {
		t.Errorf("Split of %d sections: %d, %v", len(list), len(got), stop)
		return
	}
	end := 8
	for at, x := range got {
		if x.ID != list[at].ID || x.Name != list[at].Name || !bytes.Equal(x.Body, list[at].Body) {
			t.Errorf("section %d: %d %q, want %d %q", at, x.ID, x.Name, list[at].ID, list[at].Name)
		}
		end += len(modelPut(list[at]))
		if x.At != end-len(x.Body) || !bytes.Equal(b[x.At:end], x.Body) {
			t.Errorf("section %d is at %d, and ends at %d", at, x.At, end)
		}
	}
	if !bytes.Equal(sect.Join(got), b) {
		t.Errorf("Join of what came back is not the same")
	}
}

// TestWhatIsNotRising comes back only where Split says why.
func TestWhatIsNotRising(t *testing.T) {
	checkNoSplit(t, sect.Join([]sect.Section{plain(2, 1), plain(2, 2)}), 6, 11)
	checkNoSplit(t, sect.Join([]sect.Section{plain(2, 1), custom("a"), plain(1, 2)}), 6, 15)
	// A Name that is lost, and numbers that are none.
	checkSplit(t, sect.Join([]sect.Section{{ID: 2, Name: "a", Body: []byte{7}}}), []sect.Section{{ID: 2, Body: []byte{7}, At: 10}})
	checkNoSplit(t, sect.Join([]sect.Section{plain(12, 1)}), 6, 8)
	checkNoSplit(t, sect.Join([]sect.Section{custom("\xff")}), 4, 11)
	checkNoSplit(t, sect.Join([]sect.Section{custom(strings.Repeat("n", 201))}), 13, 11)
	checkNoSplit(t, sect.Join(make([]sect.Section, 10001)), 29, 8+3*10000)
}

// P1

// TestAnything splits, joins and finds what comes by chance: the same numbers each time.
func TestAnything(t *testing.T) {
	next := trial.Chance(7)
	for range 20000 {
		b := make([]byte, next(30))
		for at := range b {
			b[at] = byte(next(256))
			if next(3) > 0 {
				b[at] = byte(next(13))
			}
		}
		checkNextModel(t, b)
		checkSplitModel(t, b)
		b = append([]byte(head), b...)
		checkSplitModel(t, b)
		list, _ := sect.Split(b)
		checkJoin(t, list, modelJoin(list))
		id, name := byte(next(13)), string([]byte{byte(next(256))})
		checkFind(t, list, id, name, modelFind(list, id, name))
	}
}

func TestManyBytes(t *testing.T) {
	for x := range 256 {
		b := bytes.Repeat([]byte{byte(x)}, 1000)
		checkNextModel(t, b)
		checkSplitModel(t, b)
		checkSplitModel(t, append([]byte(head), b...))
	}
}

// P2

// TestArgumentsStay looks at bytes and lists, and at what is behind them that there is room for.
func TestArgumentsStay(t *testing.T) {
	room := []byte(head + "\x00\x04\x01a\x05\x06\x01\x01\x07\x01\x00\x0c")
	whole := slices.Clone(room)
	for n := range len(room) + 1 {
		sect.Split(room[:n])
		try(scan.Over(room[:n]))
		try(scan.Over(room[8 : 8+max(0, n-8)]))
	}
	if !bytes.Equal(room, whole) {
		t.Errorf("the bytes were % x and are % x", whole, room)
	}

	body := []byte{1, 2, 3, 4, 5, 6, 7, 8}
	list := []sect.Section{{ID: 1, Body: body[:2], At: 3}, {Name: "a", Body: body[:0]}, {Body: body[2:3]}, {ID: 9, Name: "z", Body: body[:8], At: -5}}
	want := []sect.Section{{ID: 1, Body: []byte{1, 2}, At: 3}, {Name: "a"}, {Body: []byte{3}}, {ID: 9, Name: "z", Body: []byte{1, 2, 3, 4, 5, 6, 7, 8}, At: -5}}
	for n := range len(list) + 1 {
		sect.Join(list[:n])
		for id := range byte(13) {
			sect.Find(list[:n], id, "a")
		}
		for _, x := range list[:n] {
			sect.Put(x)
		}
	}
	if !slices.EqualFunc(list, want, same) || !bytes.Equal(body, []byte{1, 2, 3, 4, 5, 6, 7, 8}) {
		t.Errorf("the list is %v", list)
	}
}

// TestArgumentsAreNotKept spoils what was handed in: the results stay.
func TestArgumentsAreNotKept(t *testing.T) {
	for _, x := range samples() {
		b := []byte(x.b)
		got, _ := try(scan.Over(b))
		trial.Spoil(b, 0xee)
		if !same(got, x.x) {
			t.Errorf("Next: %v, want %v", got, x.x)
		}
		b = []byte(head + x.b)
		want, _ := modelSplit(slices.Clone(b))
		list, _ := sect.Split(b)
		trial.Spoil(b, 0xee)
		if !slices.EqualFunc(list, want, same) {
			t.Errorf("Split: %v, want %v", list, want)
		}
		y := x.x
		y.Body = slices.Clone(y.Body)
		put, joined := sect.Put(y), sect.Join([]sect.Section{y})
		found, _ := sect.Find([]sect.Section{y}, y.ID, y.Name)
		trial.Spoil(y.Body, 0xee)
		if string(put) != modelPut(x.x) || string(joined) != head+modelPut(x.x) || !same(found, x.x) {
			t.Errorf("%v: Put, Join or Find changed", x.x)
		}
	}
}

// TestResultsAreNew spoils what comes back: neither the arguments nor the other results change.
func TestResultsAreNew(t *testing.T) {
	b := []byte(head + "\x00\x04\x01a\x05\x06\x01\x02\x07\x08\x02\x00\x03\x01\x09\x00\x01\x00")
	whole := slices.Clone(b)
	for range 3 {
		want, _ := modelSplit(whole)
		list, _ := sect.Split(b)
		for at := range list {
			if !same(list[at], want[at]) {
				t.Errorf("section %d: %v, want %v", at, list[at], want[at])
			}
			found, ok := sect.Find(list, list[at].ID, list[at].Name)
			trial.Spoil(found.Body, 0xee)
			trial.Spoil(sect.Put(list[at]), 0xee)
			if !ok || !same(list[at], want[at]) {
				t.Errorf("section %d after Find and Put: %v, want %v", at, list[at], want[at])
			}
		}
		trial.Spoil(sect.Join(list), 0xee)
		for at := range list {
			if !same(list[at], want[at]) {
				t.Errorf("section %d after Join and after others: %v, want %v", at, list[at], want[at])
			}
			trial.Spoil(list[at].Body, 0xee)
		}
		if !bytes.Equal(b, whole) {
			t.Errorf("the bytes are % x", b)
		}
		checkJoin(t, nil, head)
	}
}

// TestNextLeavesItsScanner spoils a Body: what the scanner reads then is what it was made of.
func TestNextLeavesItsScanner(t *testing.T) {
	whole := []byte("\x01\x02\x07\x08\x00\x03\x01a\x09\x02\x01\x05")
	outer := scan.Over(whole)
	s := outer.Sub(len(whole))
	for _, want := range []sect.Section{{ID: 1, Body: []byte{7, 8}, At: 2}, {Name: "a", Body: []byte{9}, At: 8}, {ID: 2, Body: []byte{5}, At: 11}} {
		got, stop := try(s)
		if !same(got, want) || stop != (abort.Stop{}) {
			t.Errorf("Next: %v, %v, want %v", got, stop, want)
		}
		trial.Spoil(got.Body, 0xee)
	}
	if !s.Done() || !outer.Done() {
		t.Errorf("%d and %d bytes are left", s.Left(), outer.Left())
	}
}

// TestCallsDoNotMatter asks the same again after calls that fail.
func TestCallsDoNotMatter(t *testing.T) {
	for range 3 {
		checkNoSplit(t, []byte(head+"\x05\x00\x05\x00"), 6, 10)
		checkNoSplit(t, []byte(head+"\x0b\x00\x0c"), 6, 10)
		checkNoNext(t, []byte{0, 2, 1, 0xff}, 4, 3)
		checkNoNext(t, []byte{1, 2}, 2, 2)
		checkFind(t, []sect.Section{plain(1, 5)}, 2, "", -1)
		checkSplit(t, []byte(head+"\x01\x01\x07"), []sect.Section{{ID: 1, Body: []byte{7}, At: 10}})
		checkNext(t, []byte{0, 2, 1, 'a'}, sect.Section{Name: "a", At: 4}, 4)
		checkPut(t, custom("a", 7), "\x00\x03\x01a\x07")
		checkJoin(t, []sect.Section{plain(1, 7)}, head+"\x01\x01\x07")
		checkFind(t, []sect.Section{plain(1, 5)}, 1, "", 0)
	}
}
