package utf_test

import (
	"bytes"
	"slices"
	"strings"
	"testing"
	"unicode/utf8"

	"creel/api"
	"creel/utf"
)

// The model encodes and decodes by the bits that the chapter describes, and shares nothing with the package.

// isCodePoint tells whether a number is a code point.
func isCodePoint(v int) bool {
	return 0 <= v && v <= 0x10ffff && (v < 0xd800 || v > 0xdfff)
}

// encodeIn lays out a number in so many bytes, whether or not it is to have so many.
func encodeIn(v, n int) []byte {
	if n == 1 {
		return []byte{byte(v)}
	}
	b := make([]byte, n)
	for i := n - 1; i > 0; i-- {
		b[i] = 0b10_000000 | byte(v&0b111111)
		v >>= 6
	}
	b[0] = [...]byte{2: 0b110_00000, 3: 0b1110_0000, 4: 0b11110_000}[n] | byte(v)
	return b
}

// encode is the encoding of a code point.
func encode(v int) []byte {
	switch {
	case v < 0x80:
		return encodeIn(v, 1)
	case v < 0x800:
		return encodeIn(v, 2)
	case v < 0x10000:
		return encodeIn(v, 3)
	}
	return encodeIn(v, 4)
}

// modelFirst takes the number out of each length that a prefix may have, and looks whether it is encoded so.
func modelFirst(b []byte) (rune, int) {
	for n := 1; n <= 4 && n <= len(b); n++ {
		v := int(b[0])
		if n > 1 {
			v &= 0xff >> (n + 1)
		}
		for _, x := range b[1:n] {
			v = v<<6 | int(x&0x3f)
		}
		if isCodePoint(v) && bytes.Equal(encode(v), b[:n]) {
			return rune(v), n
		}
	}
	return 0, 0
}

// modelCount counts the code points of a string; -1: something in it is none.
func modelCount(b []byte) int {
	count := 0
	for at := 0; at < len(b); count++ {
		_, n := modelFirst(b[at:])
		if n == 0 {
			return -1
		}
		at += n
	}
	return count
}

// modelCheck is the error of a name.
func modelCheck(s string) api.Errno {
	if len(s) > 200 {
		return api.ErrLong
	}
	if modelCount([]byte(s)) < 0 {
		return api.ErrUTF
	}
	return api.OK
}

// modelByte is how Show writes a byte.
func modelByte(c byte) string {
	if c >= 0x20 && c <= 0x7e && c != 0x22 && c != 0x5c {
		return string(rune(c))
	}
	digits := []string{"0", "1", "2", "3", "4", "5", "6", "7", "8", "9", "a", "b", "c", "d", "e", "f"}
	return "\x5c" + digits[c/16] + digits[c%16]
}

// modelShow is s between double quotes.
func modelShow(s string) string {
	list := []string{"\x22"}
	for _, c := range []byte(s) {
		list = append(list, modelByte(c))
	}
	return strings.Join(append(list, "\x22"), "")
}

// checkFirst checks both results of one First.
func checkFirst(t *testing.T, b []byte, want rune, length int) {
	t.Helper()
	if c, n := utf.First(b); c != want || n != length {
		t.Errorf("First(% x): %x, %d, want %x, %d", b, c, n, want, length)
	}
}

// checkAll checks First, Right, Count and Check of the same bytes against the model.
func checkAll(t *testing.T, b []byte) {
	t.Helper()
	c, n := modelFirst(b)
	checkFirst(t, b, c, n)
	checkValid(t, string(b), modelCount(b), modelCheck(string(b)))
}

// checkValid checks what is told of a whole string: how many code points it has (-1: it is not valid), and its error as a name.
func checkValid(t *testing.T, s string, count int, why api.Errno) {
	t.Helper()
	if got := utf.Right([]byte(s)); got != (count >= 0) {
		t.Errorf("Right(% x): %t, want %t", s, got, count >= 0)
	}
	if got := utf.Count(s); got != count {
		t.Errorf("Count(% x): %d, want %d", s, got, count)
	}
	if got := utf.Check(s); got != why {
		t.Errorf("Check(% x): %d, want %d", s, got, why)
	}
}

// checkRead checks both results of one Read.
func checkRead(t *testing.T, s, want string, ok bool) {
	t.Helper()
	if got, yes := utf.Read(s); got != want || yes != ok {
		t.Errorf("Read(% x): % x, %t, want % x, %t", s, got, yes, want, ok)
	}
}

// allBytes is the string of all bytes.
func allBytes() string {
	b := make([]byte, 256)
	for i := range b {
		b[i] = byte(i)
	}
	return string(b)
}

// edgeBytes are the bytes about the ends of the forms of an encoding.
var edgeBytes = []byte{
	0x00, 0x22, 0x41, 0x5c, 0x7f, 0x80, 0x81, 0x8f, 0x90, 0x9f, 0xa0, 0xbf, 0xc0, 0xc1, 0xc2, 0xdf,
	0xe0, 0xe1, 0xec, 0xed, 0xee, 0xef, 0xf0, 0xf1, 0xf3, 0xf4, 0xf5, 0xf7, 0xf8, 0xfb, 0xfc, 0xfe, 0xff,
}

// edgePoints are the least and the greatest code points of each length, those next to the surrogates, and the one that libraries report errors by.
var edgePoints = []int{0, 1, 0x7e, 0x7f, 0x80, 0x81, 0x7fe, 0x7ff, 0x800, 0x801, 0xd7ff, 0xe000, 0xfffd, 0xfffe, 0xffff, 0x10000, 0x10001, 0x10fffe, 0x10ffff}

// invalid are bytes that no encoding is a prefix of.
var invalid = []string{
	"\x80", "\xbf", "\x80\x80", "\xbf\x41", "\x80A", // a continuation byte at the beginning
	"\xc0\x80", "\xc0\xbf", "\xc1\x80", "\xc1\xbf", // longer than needed
	"\xe0\x80\x80", "\xe0\x80\xaf", "\xe0\x81\xbf", "\xe0\x9f\xbf",
	"\xf0\x80\x80\x80", "\xf0\x80\x9f\xbf", "\xf0\x82\x82\xac", "\xf0\x8f\xbf\xbf",
	"\xed\xa0\x80", "\xed\xa0\xbd", "\xed\xad\xbf", "\xed\xae\x80", "\xed\xaf\xbf", "\xed\xb0\x80", "\xed\xbf\xbf", // surrogates
	"\xed\xa0\x80\xed\xb0\x80",
	"\xf4\x90\x80\x80", "\xf4\xbf\xbf\xbf", "\xf5\x80\x80\x80", "\xf7\xbf\xbf\xbf", // above 10ffff
	"\xf8\x88\x80\x80\x80", "\xfb\xbf\xbf\xbf\xbf", "\xfc\x84\x80\x80\x80\x80", "\xfe", "\xff", "\xfe\xff",
	"\xc2", "\xdf", "\xe0", "\xe0\xa0", "\xe2\x82", "\xef\xbf", "\xed\x9f", "\xf0", "\xf0\x90", "\xf0\x9f\x98", "\xf4\x8f\xbf", // too short
	"\xc2A", "\xc2\xc2\x80", "\xe2A\xac", "\xe2\x82A", "\xe2\xe2\x82\xac", "\xf0\x9f\x98A", "\xf0\x9fA\x80", "\xf0A\x98\x80", // a continuation byte is missing
	"\xc2\x00", "\xc2\x7f", "\xc2\xc0", "\xe2\x82\xc0", "\xe2\x82\x7f", "\xf0\x9f\x98\xc0", "\xf0\x9f\x98\x7f",
}

// P3.1

func TestFirst(t *testing.T) {
	checkFirst(t, []byte("a"), 'a', 1)
	checkFirst(t, []byte("abc"), 'a', 1)
	checkFirst(t, []byte("\xc3\xa9t\xc3\xa9"), 0xe9, 2)
	checkFirst(t, []byte("\xe2\x82\xac!"), 0x20ac, 3)
	checkFirst(t, []byte("\xf0\x9f\x98\x80 and more"), 0x1f600, 4)
	checkFirst(t, []byte("\xef\xbf\xbd"), 0xfffd, 3)
	checkFirst(t, []byte("\x00"), 0, 1)
	checkFirst(t, []byte("\x00\x00"), 0, 1)
	checkFirst(t, nil, 0, 0)
	checkFirst(t, []byte{}, 0, 0)
	// What follows the encoding need not be one.
	checkFirst(t, []byte("a\xff"), 'a', 1)
	checkFirst(t, []byte("\xc2\x80\x80"), 0x80, 2)
	checkFirst(t, []byte("\xe2\x82\xac\xe2\x82"), 0x20ac, 3)
	checkFirst(t, []byte("\xf4\x8f\xbf\xbf\xf4\x90\x80\x80"), 0x10ffff, 4)
}

func TestFirstOfTheEdges(t *testing.T) {
	for _, c := range []struct {
		b    string
		want rune
	}{
		{"\x00", 0}, {"\x7f", 0x7f}, {"\xc2\x80", 0x80}, {"\xdf\xbf", 0x7ff}, {"\xe0\xa0\x80", 0x800},
		{"\xed\x9f\xbf", 0xd7ff}, {"\xee\x80\x80", 0xe000}, {"\xef\xbf\xbf", 0xffff},
		{"\xf0\x90\x80\x80", 0x10000}, {"\xf4\x8f\xbf\xbf", 0x10ffff},
	} {
		checkFirst(t, []byte(c.b), c.want, len(c.b))
		checkFirst(t, []byte(c.b+"\x80"), c.want, len(c.b))
		checkFirst(t, []byte(c.b+c.b), c.want, len(c.b))
		checkValid(t, c.b, 1, api.OK)
		checkValid(t, c.b+"a"+c.b, 3, api.OK)
		checkValid(t, c.b+"\x80", -1, api.ErrUTF)
	}
}

func TestCountRightAndCheck(t *testing.T) {
	checkValid(t, "", 0, api.OK)
	checkValid(t, "memory", 6, api.OK)
	checkValid(t, "\x00", 1, api.OK)
	checkValid(t, "a\x00\x7f", 3, api.OK)
	checkValid(t, "\xc3\xa9t\xc3\xa9", 3, api.OK)
	checkValid(t, "\xe2\x82\xac\xf0\x9f\x98\x80", 2, api.OK)
	checkValid(t, "\xef\xbf\xbd", 1, api.OK)
	checkValid(t, "\xef\xbf\xbd\xef\xbf\xbd", 2, api.OK)
	checkValid(t, "e\xcc\x81", 2, api.OK) // a letter and its accent are two
	checkValid(t, "abc\xff", -1, api.ErrUTF)
	checkValid(t, "\xe2\x82\xac\xe2\x82", -1, api.ErrUTF)
	checkValid(t, "\xef\xbf\xbd\xff", -1, api.ErrUTF)
	if !utf.Right(nil) || !utf.Right([]byte{}) {
		t.Errorf("Right of nothing")
	}
}

func TestInvalid(t *testing.T) {
	for _, s := range invalid {
		checkFirst(t, []byte(s), 0, 0)
		checkValid(t, s, -1, api.ErrUTF)
		for _, good := range []string{"a", "\xc3\xa9", "\xe2\x82\xac", "\xf0\x9f\x98\x80"} {
			checkValid(t, good+s, -1, api.ErrUTF)
			checkValid(t, s+good, -1, api.ErrUTF)
			checkValid(t, good+s+good, -1, api.ErrUTF)
		}
	}
}

func TestAllPrefixesThatAreTooShort(t *testing.T) {
	for _, v := range edgePoints {
		b := encode(v)
		for n := range len(b) {
			checkFirst(t, b[:n:n], 0, 0)
			if n > 0 {
				checkValid(t, string(b[:n]), -1, api.ErrUTF)
				checkValid(t, "name"+string(b[:n]), -1, api.ErrUTF)
			}
			// The spare capacity holds the bytes that are missing.
			checkFirst(t, b[:n], 0, 0)
			if utf.Right(b[:n]) != (n == 0) {
				t.Errorf("Right(% x) with % x in its spare capacity", b[:n], b[n:])
			}
		}
	}
}

func TestEncodingsThatAreTooLong(t *testing.T) {
	for _, v := range edgePoints {
		for n := len(encode(v)) + 1; n <= 4; n++ {
			b := encodeIn(v, n)
			checkFirst(t, b, 0, 0)
			checkValid(t, string(b), -1, api.ErrUTF)
		}
	}
}

func TestAllNumbersThatAreNoCodePoints(t *testing.T) {
	for v := 0xd800; v <= 0xdfff; v++ {
		b := encodeIn(v, 3)
		checkFirst(t, b, 0, 0)
		checkValid(t, string(b), -1, api.ErrUTF)
	}
	for v := 0x110000; v <= 0x1fffff; v += 61 {
		b := encodeIn(v, 4)
		checkFirst(t, b, 0, 0)
		checkValid(t, string(b), -1, api.ErrUTF)
	}
}

func TestAllInputsOfOneAndTwoBytes(t *testing.T) {
	for x := range 256 {
		checkAll(t, []byte{byte(x)})
		for y := range 256 {
			checkAll(t, []byte{byte(x), byte(y)})
		}
	}
}

func TestInputsOfThreeAndFourBytes(t *testing.T) {
	for x := range 256 {
		for _, y := range edgeBytes {
			for _, z := range edgeBytes {
				checkAll(t, []byte{byte(x), y, z})
			}
		}
	}
	for x := 0xe0; x < 0x100; x++ {
		for _, y := range edgeBytes {
			for _, z := range edgeBytes {
				for _, u := range []byte{0x00, 0x7f, 0x80, 0xbf, 0xc0, 0xff} {
					checkAll(t, []byte{byte(x), y, z, u})
				}
			}
		}
	}
}

func TestCheckLength(t *testing.T) {
	for _, v := range edgePoints {
		sign := string(encode(v))
		// So many of the sign, and letters for the rest.
		name := strings.Repeat(sign, 200/len(sign)) + strings.Repeat("x", 200%len(sign))
		count := 200/len(sign) + 200%len(sign)
		checkValid(t, name, count, api.OK)
		checkValid(t, name[:200-len(sign)], modelCount([]byte(name[:200-len(sign)])), modelCheck(name[:200-len(sign)]))
		checkValid(t, name+"x", count+1, api.ErrLong)
		checkValid(t, name+sign, count+1, api.ErrLong)
		checkValid(t, name+name, 2*count, api.ErrLong)
	}
	for n := range 410 {
		why := api.OK
		if n > 200 {
			why = api.ErrLong
		}
		checkValid(t, strings.Repeat("n", n), n, why)
	}
}

func TestCheckLengthBeforeValidity(t *testing.T) {
	for _, s := range invalid {
		room := strings.Repeat("n", 200-len(s))
		checkValid(t, s+room, -1, api.ErrUTF)
		checkValid(t, room+s, -1, api.ErrUTF)
		checkValid(t, s+room+"n", -1, api.ErrLong)
		checkValid(t, room+"n"+s, -1, api.ErrLong)
	}
	// The bytes are counted, not the code points, and an encoding that the limit cuts is not cut.
	checkValid(t, strings.Repeat("\xe2\x82\xac", 67), 67, api.ErrLong)
	checkValid(t, strings.Repeat("n", 199)+"\xc3\xa9", 200, api.ErrLong)
	checkValid(t, strings.Repeat("n", 199)+"\xc3", -1, api.ErrUTF)
	checkValid(t, strings.Repeat("n", 200)+"\xc3", -1, api.ErrLong)
}

// P3.2

// shown are strings and what Show makes of them.
var shown = []struct{ s, show string }{
	{"", `""`}, {"a", `"a"`}, {"memory", `"memory"`}, {"a b", `"a b"`}, {" ", `" "`}, {"~", `"~"`}, {"'`", "\"'`\""},
	{"a\n\"", `"a\0a\22"`},
	{"\x00", `"\00"`}, {"\x1f", `"\1f"`}, {"\x20", `" "`}, {"\x7e", `"~"`}, {"\x7f", `"\7f"`}, {"\x80", `"\80"`}, {"\xff", `"\ff"`},
	{"\x1f\x20\x7e\x7f", `"\1f ~\7f"`},
	{"\"", `"\22"`}, {"\\", `"\5c"`}, {"\"\"", `"\22\22"`}, {"\\\\", `"\5c\5c"`}, {"\\22", `"\5c22"`}, {"!#[]", `"!#[]"`},
	{"\t\r\n", `"\09\0d\0a"`}, {"\xab\xcd\xef", `"\ab\cd\ef"`}, {"\xe2\x82\xac", `"\e2\82\ac"`}, {"\xc0\x80", `"\c0\80"`},
	{"\x0a0a", `"\0a0a"`}, {"ab\x00cd", `"ab\00cd"`},
}

// unshown are strings that Show never returns.
var unshown = []string{
	``, `"`, `a`, `abc`, `\22`, `'a'`, `"a`, `a"`, `"abc`, `abc"`, `"abc'`, "\x00\x00", // a missing quote
	` "a"`, `"a" `, `"a"b`, `"a"b"`, `"a""`, `""a"`, `"a""b"`, `"""`, `""""`, `"a"` + "\n", `""x`, `x""`, `"\22"x`, // text outside of the quotes, or an unescaped quote
	`"\"`, `"\\"`, `"\""`, `"a\"`, `"\n"`, `"a\b"`, `"\x0a"`, `"\5c\"`, `"\\5c"`, `"\ "`, `"\\\"`, `"a\\b"`, // an unescaped backslash
	`"\0"`, `"\a"`, `"a\2"`, `"\0`, `"\22`, `"\2"22"`, `"\0g"`, `"\g0"`, `"\0 "`, `"\ 0"`, `"\-1"`, `"\+1"`, `"\0\0"`, `"\22\0"`, // one digit instead of two
	`"\0A"`, `"\A0"`, `"\5C"`, `"\7F"`, `"\FF"`, `"\aB"`, `"\Ab"`, `"\0a\0A"`, // upper-case digits
	`"\20"`, `"\21"`, `"\23"`, `"\41"`, `"\5b"`, `"\5d"`, `"\61"`, `"\7e"`, `"a\61"`, `"\22\61"`, // escaped although copied
	"\"\x00\"", "\"\x1f\"", "\"\x7f\"", "\"\x80\"", "\"\xff\"", "\"\n\"", "\"a\nb\"", "\"\xe2\x82\xac\"", "\"\xc3\xa9\"", // copied although escaped
	`"\:0"`, `"\0:"`, `"\/0"`, `"\0/"`, "\"\\`0\"", "\"\\0`\"", `"\@0"`, "\"\\0\x00\"", "\"\\\x000\"", "\"\\\xff\xff\"",
}

func TestShowAndRead(t *testing.T) {
	for _, c := range shown {
		if got := utf.Show(c.s); got != c.show {
			t.Errorf("Show(% x): %s, want %s", c.s, got, c.show)
		}
		checkRead(t, c.show, c.s, true)
	}
}

func TestShowOfEachByte(t *testing.T) {
	for x := range 256 {
		for _, s := range []string{string([]byte{byte(x)}), string([]byte{'a', byte(x), 'b'}), string([]byte{byte(x), byte(x)})} {
			if got, want := utf.Show(s), modelShow(s); got != want {
				t.Errorf("Show(% x): %s, want %s", s, got, want)
			}
			checkRead(t, modelShow(s), s, true)
		}
	}
}

func TestReadWhatShowNeverReturns(t *testing.T) {
	for _, s := range unshown {
		checkRead(t, s, "", false)
	}
	for _, c := range shown {
		checkRead(t, c.show[1:], "", false)
		checkRead(t, c.show[:len(c.show)-1], "", false)
		checkRead(t, c.show+c.show, "", false)
		checkRead(t, c.show+" ", "", false)
		checkRead(t, "\n"+c.show, "", false)
	}
}

func TestReadOfEachByte(t *testing.T) {
	for x := range 256 {
		b := byte(x)
		copied := b >= 0x20 && b <= 0x7e && b != '"' && b != '\\'
		if one := string([]byte{b}); copied {
			checkRead(t, `"`+one+`"`, one, true)
		} else {
			checkRead(t, `"`+one+`"`, "", false)
			checkRead(t, `"a`+one+`a"`, "", false)
		}
	}
}

func TestReadOfEachPairOfDigits(t *testing.T) {
	value := func(c byte) int { return strings.IndexByte("0123456789abcdef", c) }
	for x := range 256 {
		for y := range 256 {
			s := string([]byte{'"', '\\', byte(x), byte(y), '"'})
			high, low := value(byte(x)), value(byte(y))
			want := string([]byte{byte(16*high + low)})
			if high >= 0 && low >= 0 && modelShow(want) == s {
				checkRead(t, s, want, true)
			} else {
				checkRead(t, s, "", false)
			}
		}
	}
}

// TestReadOfAllShortTexts reads every text of a few bytes: those that Show returns are known, and the others are refused.
func TestReadOfAllShortTexts(t *testing.T) {
	letters := []byte{'"', '\\', '0', '2', 'a', 'A', 'g', '\n'}
	var source []byte
	for x := range 256 {
		source = append(source, byte(x))
	}
	want := map[string]string{modelShow(""): ""}
	for _, x := range source {
		want[modelShow(string([]byte{x}))] = string([]byte{x})
		for _, y := range source {
			want[modelShow(string([]byte{x, y}))] = string([]byte{x, y})
		}
	}
	for _, x := range letters {
		for _, y := range letters {
			for _, z := range letters {
				want[modelShow(string([]byte{x, y, z}))] = string([]byte{x, y, z})
			}
		}
	}
	for n := range 6 {
		for _, s := range words(letters, n) {
			answer, ok := want[s]
			checkRead(t, s, answer, ok)
		}
	}
}

// words are all the strings of so many of the letters.
func words(letters []byte, n int) []string {
	if n == 0 {
		return []string{""}
	}
	var list []string
	for _, w := range words(letters, n-1) {
		for _, c := range letters {
			list = append(list, w+string([]byte{c}))
		}
	}
	return list
}

// P3.3

func TestAllCodePointsAreDecoded(t *testing.T) {
	number := 0
	for v := range 0x110000 {
		if !isCodePoint(v) {
			continue
		}
		number++
		b := encode(v)
		if c, n := utf.First(b); int(c) != v || n != len(b) {
			t.Fatalf("First(% x): %x, %d", b, c, n)
		}
		if c, n := utf.First(append(b, 0xbf)); int(c) != v || n != len(b) {
			t.Fatalf("First(% x bf): %x, %d", b, c, n)
		}
		if s := string(b); !utf.Right(b) || utf.Count(s) != 1 || utf.Check(s) != api.OK {
			t.Fatalf("% x: Right %t, Count %d, Check %d", b, utf.Right(b), utf.Count(s), utf.Check(s))
		}
	}
	if number != 0x110000-0x800 {
		t.Errorf("%d code points", number)
	}
}

func TestTextIsDecoded(t *testing.T) {
	var text []byte
	for _, v := range edgePoints {
		text = append(text, encode(v)...)
	}
	if got := utf.Count(string(text)); got != len(edgePoints) {
		t.Errorf("Count: %d, want %d", got, len(edgePoints))
	}
	for _, v := range edgePoints {
		c, n := utf.First(text)
		if int(c) != v || n != len(encode(v)) {
			t.Fatalf("First: %x, %d, want %x", c, n, v)
		}
		text = text[n:]
	}
	if len(text) != 0 {
		t.Errorf("% x is left", text)
	}
}

func TestReadInvertsShow(t *testing.T) {
	list := []string{"", allBytes(), strings.Repeat(allBytes(), 9), strings.Repeat("\\\"", 500), strings.Repeat("name ", 5000)}
	list = append(list, invalid...)
	list = append(list, unshown...)
	for _, c := range shown {
		list = append(list, c.s, c.show)
	}
	for x := range 256 {
		for _, y := range edgeBytes {
			list = append(list, string([]byte{byte(x), y}), string([]byte{y, byte(x)}))
		}
	}
	for _, s := range list {
		show := utf.Show(s)
		if want := modelShow(s); show != want {
			t.Errorf("Show(% x): %s, want %s", s, show, want)
		}
		checkRead(t, show, s, true)
		// And once more, of what is shown.
		checkRead(t, utf.Show(show), show, true)
	}
}

// P1

// TestAnyArguments calls the functions with what nobody would write; the model tells what they return.
func TestAnyArguments(t *testing.T) {
	seed := uint32(1)
	for n := range 600 {
		b := make([]byte, n)
		for i := range b {
			seed = seed*1664525 + 1013904223
			b[i] = byte(seed >> 24)
			if n%3 == 0 {
				b[i] = edgeBytes[int(seed>>24)%len(edgeBytes)]
			}
		}
		checkAll(t, b)
		s := string(b)
		checkRead(t, s, "", false)
		checkRead(t, utf.Show(s), s, true)
		if got, ok := utf.Read(`"` + s + `"`); ok && modelShow(got) != `"`+s+`"` || !ok && got != "" {
			t.Errorf("Read(% x): % x, %t", s, got, ok)
		}
	}
}

func TestLongArguments(t *testing.T) {
	const n = 1 << 20
	for _, c := range []struct {
		part  string
		count int
	}{{"a", 1}, {"\xe2\x82\xac", 1}, {"\xf0\x9f\x98\x80", 1}, {"\\\"", 2}} {
		s := strings.Repeat(c.part, n)
		checkLong(t, s, c.count*n)
		checkLong(t, s+"\xff", -1)
		checkLong(t, "\x80"+s, -1)
	}
}

// checkLong checks a string that is too long to be printed.
func checkLong(t *testing.T, s string, count int) {
	t.Helper()
	if got := utf.Count(s); got != count || utf.Right([]byte(s)) != (count >= 0) || utf.Check(s) != api.ErrLong {
		t.Errorf("%d bytes: Count %d, want %d; Right %t; Check %d", len(s), got, count, utf.Right([]byte(s)), utf.Check(s))
	}
	show := utf.Show(s)
	if got, ok := utf.Read(show); got != s || !ok {
		t.Errorf("%d bytes: Read does not invert Show", len(s))
	}
	if got, ok := utf.Read(show[:len(show)-1]); got != "" || ok {
		t.Errorf("%d bytes without their last quote are read", len(s))
	}
}

// P2

func TestArgumentsStay(t *testing.T) {
	for _, s := range append([]string{"", "a", "abc", "\xe2\x82\xac!", "\xf0\x9f\x98\x80", allBytes()}, invalid...) {
		for at := range len(s) + 1 {
			full := []byte(s)
			b := full[:at]
			c, n := utf.First(b)
			right := utf.Right(b)
			if !bytes.Equal(full, []byte(s)) {
				t.Errorf("% x became % x", s, full)
			}
			// What lies behind the bytes has no say, and neither have earlier calls.
			lone := slices.Clone(b)
			if again, m := utf.First(lone); again != c || m != n || utf.Right(lone) != right {
				t.Errorf("First(% x): %x, %d, and then %x, %d; Right %t", b, c, n, again, m, right)
			}
		}
	}
}

func TestResultsAreNew(t *testing.T) {
	b := []byte(`"a\0a\22"`)
	s := string(b)
	show := utf.Show(s)
	read, _ := utf.Read(s)
	for i := range b {
		b[i] = 'z'
	}
	if show != `"\22a\5c0a\5c22\22"` || read != "a\n\"" || s != `"a\0a\22"` {
		t.Errorf("Show %s, Read %q", show, read)
	}
	for range 3 {
		checkRead(t, s, "a\n\"", true)
		checkRead(t, s+"x", "", false)
		checkFirst(t, []byte("\xe2\x82\xac"), 0x20ac, 3)
		checkFirst(t, []byte("\xe2\x82"), 0, 0)
	}
}

// The model is held against the library once, so that a slip in it is not taken for one in the package.
func TestModel(t *testing.T) {
	for _, v := range edgePoints {
		if got := string(encode(v)); got != string(rune(v)) {
			t.Errorf("the model encodes %x as % x", v, got)
		}
	}
	for _, s := range invalid {
		if modelCount([]byte(s)) >= 0 || utf8.ValidString(s) {
			t.Errorf("% x is valid", s)
		}
	}
}
