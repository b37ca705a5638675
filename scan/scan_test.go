package scan_test

import (
	"bytes"
	"math"
	"slices"
	"strings"
	"testing"
	"unicode/utf8"

	"creel/abort"
	"creel/api"
	"creel/leb"
	"creel/scan"
	"creel/trial"
	"creel/types"
	"creel/utf"
)

// The model is written from the chapter with numbers of its own, and shares nothing with the package: it does not abort, but keeps the first error, and reads no more then.
type model struct {
	data []byte
	at   int
	stop abort.Stop
}

func (m *model) fail(why api.Errno, at int) {
	if m.stop.Why == 0 {
		m.stop = abort.Stop{Why: why, At: at}
	}
}

func (m *model) bytes(n int) string {
	switch {
	case n < 0:
		m.fail(1, m.at)
	case m.at+n > len(m.data):
		m.fail(2, m.at)
	}
	if m.stop.Why != 0 {
		return ""
	}
	s := string(m.data[m.at : m.at+n])
	m.at += n
	return s
}

// byte is the next byte, or -1.
func (m *model) byte() int {
	s := m.bytes(1)
	if s == "" {
		return -1
	}
	return int(s[0])
}

// binary is the next varint as its bits, the least one first: all those that its bytes have.
func (m *model) binary(bits int) []byte {
	start := m.at
	if bits < 1 || bits > 64 {
		m.fail(1, start)
	}
	var list []byte
	for more := true; more && m.stop.Why == 0; {
		if len(list) >= bits {
			m.fail(3, start)
			break
		}
		if m.at == len(m.data) {
			m.fail(2, start)
			break
		}
		for i := range 7 {
			list = append(list, m.data[m.at]>>i&1)
		}
		more = m.data[m.at] >= 128
		m.at++
	}
	if m.stop.Why != 0 {
		return nil
	}
	return list
}

// varint is the next number of so many bits; those above them have to be zeros, or, if signed, what the highest of them is.
func (m *model) varint(bits int, signed bool) uint64 {
	start := m.at
	list := m.binary(bits)
	if m.stop.Why != 0 {
		return 0
	}
	for len(list) < 64 {
		if signed {
			list = append(list, list[len(list)-1])
		} else {
			list = append(list, 0)
		}
	}
	for _, bit := range list[min(bits, len(list)):] {
		if !signed && bit != 0 || signed && bit != list[bits-1] {
			m.fail(3, start)
		}
	}
	v := uint64(0)
	for i, bit := range list[:64] {
		v += uint64(bit) << i
	}
	return v
}

// length is an Index, which may not be above a limit.
func (m *model) length(most uint64, why api.Errno) int {
	start := m.at
	n := m.varint(32, false)
	if n > most {
		m.fail(why, start)
		return 0
	}
	return int(n)
}

func (m *model) name() string {
	n := m.length(200, 13)
	start := m.at
	s := m.bytes(n)
	if !utf8.ValidString(s) {
		m.fail(4, start)
	}
	return s
}

func (m *model) valType() byte {
	start := m.at
	switch b := m.byte(); b {
	case 0x7f, 0x7e:
		return byte(b)
	case 0x7d, 0x7c:
		m.fail(8, start)
	default:
		m.fail(7, start)
	}
	return 0
}

func (m *model) list() string {
	var b []byte
	for n := m.length(10000, 29); n > 0 && m.stop.Why == 0; n-- {
		b = append(b, m.valType())
	}
	return string(b)
}

func (m *model) funcType() api.FuncType {
	start := m.at
	if m.byte() != 0x60 {
		m.fail(7, start)
	}
	var t api.FuncType
	t.Params = m.list()
	t.Results = m.list()
	if len(t.Params) > 1000 || len(t.Results) > 1 {
		m.fail(29, start)
	}
	return t
}

// flag is 0 or 1.
func (m *model) flag() int {
	start := m.at
	b := m.byte()
	if b != 0 && b != 1 {
		m.fail(10, start)
	}
	return b
}

func (m *model) limits() api.Limits {
	var l api.Limits
	flag := m.flag()
	l.Min = uint32(m.varint(32, false))
	if flag == 1 {
		l.Max, l.Bound = uint32(m.varint(32, false)), true
	}
	return l
}

func (m *model) table() api.Limits {
	start := m.at
	if m.byte() != 0x70 {
		m.fail(7, start)
	}
	return m.limits()
}

func (m *model) global() api.GlobalType {
	t := m.valType()
	return api.GlobalType{T: t, Mut: m.flag() == 1}
}

// An element is read by a scanner, and by a model; what they read can be compared.
type element struct {
	name  string
	read  func(s *scan.Scanner) any
	model func(m *model) any
}

// elements are all those that have no argument.
func elements() []element {
	return []element{
		{"Byte", readByte, func(m *model) any { return byte(m.byte()) }},
		{"Index", readIndex, func(m *model) any { return uint32(m.varint(32, false)) }},
		{"Count", readCount, func(m *model) any { return m.length(10000, 29) }},
		{"Name", readName, func(m *model) any { return m.name() }},
		{"ValType", readValType, func(m *model) any { return m.valType() }},
		{"FuncType", readFuncType, func(m *model) any { return m.funcType() }},
		{"Limits", readLimits, func(m *model) any { return m.limits() }},
		{"Table", readTable, func(m *model) any { return m.table() }},
		{"Global", readGlobal, func(m *model) any { return m.global() }},
	}
}

func readByte(s *scan.Scanner) any     { return s.Byte() }
func readIndex(s *scan.Scanner) any    { return s.Index() }
func readCount(s *scan.Scanner) any    { return s.Count() }
func readName(s *scan.Scanner) any     { return s.Name() }
func readValType(s *scan.Scanner) any  { return s.ValType() }
func readFuncType(s *scan.Scanner) any { return s.FuncType() }
func readLimits(s *scan.Scanner) any   { return s.Limits() }
func readTable(s *scan.Scanner) any    { return s.Table() }
func readGlobal(s *scan.Scanner) any   { return s.Global() }

// readEnd reads nothing.
func readEnd(s *scan.Scanner) any { s.End(); return nil }

// bytesOf is the element of so many bytes.
func bytesOf(n int) element {
	return element{"Bytes", func(s *scan.Scanner) any { return string(s.Bytes(n)) }, func(m *model) any { return m.bytes(n) }}
}

// subOf is the element of so many bytes that are read by another scanner.
func subOf(n int) element {
	return element{"Sub", func(s *scan.Scanner) any { return rest(s.Sub(n)) }, func(m *model) any { return m.bytes(n) }}
}

func uintOf(bits int) element {
	return element{"Uint", func(s *scan.Scanner) any { return s.Uint(bits) }, func(m *model) any { return m.varint(bits, false) }}
}

func intOf(bits int) element {
	return element{"Int", func(s *scan.Scanner) any { return s.Int(bits) }, func(m *model) any { return int64(m.varint(bits, true)) }}
}

// rest is what a scanner has left, byte by byte.
func rest(s *scan.Scanner) string {
	var b []byte
	for !s.Done() {
		b = append(b, s.Byte())
	}
	return string(b)
}

// try reads one element, whose value is nil if the reader aborts. Another panic ends the test.
func try(s *scan.Scanner, read func(s *scan.Scanner) any) (v any, stop abort.Stop) {
	stop = abort.Out(func() { v = read(s) })
	return v, stop
}

// skipped is a scanner over a lead and some bytes that has read the lead.
func skipped(lead int, data []byte) *scan.Scanner {
	s := scan.Over(slices.Concat(bytes.Repeat([]byte{0x99}, lead), data))
	s.Bytes(lead)
	return s
}

// within is a scanner over some bytes that is one of another scanner's, between bytes that it does not have.
func within(t *testing.T, data []byte) *scan.Scanner {
	t.Helper()
	s := skipped(5, slices.Concat(data, []byte{0, 0x7f, 0}))
	sub := s.Sub(len(data))
	checkPlace(t, "the scanner of a Sub", s, 5+len(data), 3)
	return sub
}

// checkPlace checks where a scanner is.
func checkPlace(t *testing.T, what string, s *scan.Scanner, at, left int) {
	t.Helper()
	if s.At() != at || s.Left() != left || s.Done() != (left == 0) {
		t.Errorf("%s: At %d, Left %d, Done %t, want %d and %d", what, s.At(), s.Left(), s.Done(), at, left)
	}
}

// checkRead checks that what bytes begin with is read as a value with so many bytes.
func checkRead(t *testing.T, read func(s *scan.Scanner) any, data []byte, want any, n int) {
	t.Helper()
	check := func(what string, s *scan.Scanner, at int) {
		t.Helper()
		checkPlace(t, what, s, at, len(data))
		got, stop := try(s, read)
		if got != want || stop != (abort.Stop{}) {
			t.Errorf("%s, %s: %v, %v, want %v", what, shorten(data), got, stop, want)
			return
		}
		checkPlace(t, what+", behind "+shorten(data), s, at+n, len(data)-n)
		if got, want := rest(s), string(data[n:]); got != want {
			t.Errorf("%s, behind %s: % x, want % x", what, shorten(data), got, want)
		}
	}
	check("alone", scan.Over(data), 0)
	check("behind others", skipped(3, data), 3)
	check("by a Sub", within(t, data), 0)
}

// checkFails checks that what bytes begin with is not read, and why, and where.
func checkFails(t *testing.T, read func(s *scan.Scanner) any, data []byte, why api.Errno, at int) {
	t.Helper()
	check := func(what string, s *scan.Scanner, lead int) {
		t.Helper()
		got, stop := try(s, read)
		if got != nil || stop != (abort.Stop{Why: why, At: lead + at}) {
			t.Errorf("%s, %s: %v, %v, want %d at %d", what, shorten(data), got, stop, why, lead+at)
		}
	}
	check("alone", scan.Over(data), 0)
	check("behind others", skipped(3, data), 3)
	check("by a Sub", within(t, data), 0)
}

// checkModel checks that bytes are read, or not, as the model says.
func checkModel(t *testing.T, e element, data []byte) {
	t.Helper()
	m := &model{data: data}
	want := e.model(m)
	if m.stop.Why == 0 {
		checkRead(t, e.read, data, want, m.at)
	} else {
		checkFails(t, e.read, data, m.stop.Why, m.stop.At)
	}
	if t.Failed() {
		t.Fatalf("%s of %s", e.name, shorten(data))
	}
}

// shorten keeps messages about many bytes readable.
func shorten(b []byte) string {
	const digits = "0123456789abcdef"
	var text []byte
	for _, x := range b[:min(len(b), 12)] {
		text = append(text, digits[x>>4], digits[x&15], ' ')
	}
	if len(b) > 12 {
		text = append(text, "..."...)
	}
	return string(text)
}

// funcBytes is the encoding of a function type, by the lengths' bytes.
func funcBytes(nParams []byte, params string, nResults []byte, results string) []byte {
	return slices.Concat([]byte{0x60}, nParams, []byte(params), nResults, []byte(results))
}

// P5.1

func TestNoBytes(t *testing.T) {
	for _, data := range [][]byte{nil, {}} {
		checkPlace(t, "no bytes", scan.Over(data), 0, 0)
		checkRead(t, func(s *scan.Scanner) any { return string(s.Bytes(0)) }, data, "", 0)
		checkRead(t, func(s *scan.Scanner) any { return rest(s.Sub(0)) }, data, "", 0)
		checkRead(t, readEnd, data, nil, 0)
		for _, e := range append(elements(), bytesOf(1), subOf(1), uintOf(1), uintOf(64), intOf(1), intOf(64)) {
			checkFails(t, e.read, data, api.ErrShort, 0)
		}
	}
}

func TestPlaces(t *testing.T) {
	data := []byte{9, 1, 2, 3, 0xe5, 0x8e, 0x26, 0xc0, 0xbb, 0x78, 5, 4, 2, 'a', 'b', 0x7e, 0x60, 1, 0x7f, 0, 1, 6, 7, 0x70, 0, 8, 0x7f, 1, 0xaa, 0xbb}
	s := scan.Over(data)
	at := 0
	checkPlace(t, "the beginning", s, 0, len(data))
	for _, c := range []struct {
		what string
		read func(s *scan.Scanner) any
		want any
		n    int
	}{
		{"Byte", readByte, byte(9), 1},
		{"Bytes", bytesOf(3).read, "\x01\x02\x03", 3},
		{"Bytes of none", bytesOf(0).read, "", 0},
		{"Uint", uintOf(32).read, uint64(624485), 3},
		{"Int", intOf(32).read, int64(-123456), 3},
		{"Index", readIndex, uint32(5), 1},
		{"Count", readCount, 4, 1},
		{"Name", readName, "ab", 3},
		{"ValType", readValType, byte(0x7e), 1},
		{"FuncType", readFuncType, api.FuncType{Params: "\x7f"}, 4},
		{"Limits", readLimits, api.Limits{Min: 6, Max: 7, Bound: true}, 3},
		{"Table", readTable, api.Limits{Min: 8}, 3},
		{"Global", readGlobal, api.GlobalType{T: 0x7f, Mut: true}, 2},
		{"Sub of none", subOf(0).read, "", 0},
		{"Sub", subOf(2).read, "\xaa\xbb", 2},
		{"End", readEnd, nil, 0},
	} {
		if got, stop := try(s, c.read); got != c.want || stop != (abort.Stop{}) {
			t.Fatalf("%s: %v, %v, want %v", c.what, got, stop, c.want)
		}
		at += c.n
		checkPlace(t, c.what, s, at, len(data)-at)
		// To ask once more changes nothing.
		checkPlace(t, c.what, s, at, len(data)-at)
	}
}

func TestByte(t *testing.T) {
	var all []byte
	for x := range 256 {
		all = append(all, byte(x))
		checkRead(t, readByte, []byte{byte(x)}, byte(x), 1)
		checkRead(t, readByte, []byte{byte(x), 0xaa}, byte(x), 1)
	}
	s := scan.Over(all)
	for i, x := range all {
		if got := s.Byte(); got != x {
			t.Errorf("Byte: %x, want %x", got, x)
		}
		checkPlace(t, "Byte", s, i+1, 255-i)
	}
	for range 2 {
		if got, stop := try(s, readByte); got != nil || stop != (abort.Stop{Why: 2, At: 256}) {
			t.Errorf("Byte behind the last one: %v, %v", got, stop)
		}
	}
}

func TestBytesAndSub(t *testing.T) {
	data := []byte("abcdef")
	for n := range len(data) + 1 {
		checkRead(t, bytesOf(n).read, data, string(data[:n]), n)
		checkRead(t, subOf(n).read, data, string(data[:n]), n)
	}
	for _, n := range []int{7, 8, 100, 1 << 31, math.MaxInt - 3, math.MaxInt} {
		checkFails(t, bytesOf(n).read, data, api.ErrShort, 0)
		checkFails(t, subOf(n).read, data, api.ErrShort, 0)
		checkFails(t, bytesOf(n).read, nil, api.ErrShort, 0)
		checkFails(t, subOf(n).read, nil, api.ErrShort, 0)
	}
	for _, n := range []int{-1, -2, -6, -7, math.MinInt + 1, math.MinInt} {
		checkFails(t, bytesOf(n).read, data, api.ErrArg, 0)
		checkFails(t, subOf(n).read, data, api.ErrArg, 0)
		checkFails(t, bytesOf(n).read, nil, api.ErrArg, 0)
		checkFails(t, subOf(n).read, nil, api.ErrArg, 0)
	}
}

// TestBytesAtTheEnd reads what remains at every place, and one byte more.
func TestBytesAtTheEnd(t *testing.T) {
	data := []byte("abcdef")
	for at := range len(data) + 1 {
		left := len(data) - at
		for _, of := range []func(n int) element{bytesOf, subOf} {
			s := scan.Over(data)
			s.Bytes(at)
			if got, stop := try(s, of(left).read); got != string(data[at:]) || stop.Why != 0 {
				t.Errorf("%s of %d at %d: %v, %v", of(left).name, left, at, got, stop)
			}
			checkPlace(t, "all", s, len(data), 0)
			s = scan.Over(data)
			s.Bytes(at)
			if got, stop := try(s, of(left+1).read); got != nil || stop != (abort.Stop{Why: 2, At: at}) {
				t.Errorf("%s of %d at %d: %v, %v", of(left).name, left+1, at, got, stop)
			}
			s = scan.Over(data)
			s.Bytes(at)
			if got, stop := try(s, of(-1).read); got != nil || stop != (abort.Stop{Why: 1, At: at}) {
				t.Errorf("%s of -1 at %d: %v, %v", of(left).name, at, got, stop)
			}
		}
	}
}

func TestUint(t *testing.T) {
	checkRead(t, uintOf(32).read, []byte{0xe5, 0x8e, 0x26, 0x80}, uint64(624485), 3)
	checkRead(t, uintOf(1).read, []byte{1}, uint64(1), 1)
	checkRead(t, uintOf(7).read, []byte{0x7f}, uint64(127), 1)
	checkRead(t, uintOf(8).read, []byte{0xff, 1}, uint64(255), 2)
	checkRead(t, uintOf(64).read, append(bytes.Repeat([]byte{0xff}, 9), 1), uint64(math.MaxUint64), 10)
	checkRead(t, uintOf(32).read, []byte{0x81, 0x80, 0x80, 0x80, 0, 0}, uint64(1), 5)
	checkFails(t, uintOf(1).read, []byte{2}, api.ErrLeb, 0)
	checkFails(t, uintOf(7).read, []byte{0x80, 0}, api.ErrLeb, 0)
	checkFails(t, uintOf(8).read, []byte{0x80, 2}, api.ErrLeb, 0)
	checkFails(t, uintOf(32).read, []byte{0x81, 0x80, 0x80, 0x80, 0x80, 0}, api.ErrLeb, 0)
	checkFails(t, uintOf(64).read, append(bytes.Repeat([]byte{0xff}, 9), 2), api.ErrLeb, 0)
	checkFails(t, uintOf(64).read, append(bytes.Repeat([]byte{0x80}, 10), 0), api.ErrLeb, 0)
	checkFails(t, uintOf(64).read, bytes.Repeat([]byte{0x80}, 9), api.ErrShort, 0)
}

func TestInt(t *testing.T) {
	checkRead(t, intOf(32).read, []byte{0xc0, 0xbb, 0x78, 0x80}, int64(-123456), 3)
	checkRead(t, intOf(1).read, []byte{0x7f}, int64(-1), 1)
	checkRead(t, intOf(7).read, []byte{0x40}, int64(-64), 1)
	checkRead(t, intOf(8).read, []byte{0xff, 0}, int64(127), 2)
	checkRead(t, intOf(64).read, append(bytes.Repeat([]byte{0x80}, 9), 0x7f), int64(math.MinInt64), 10)
	checkRead(t, intOf(64).read, append(bytes.Repeat([]byte{0xff}, 9), 0), int64(math.MaxInt64), 10)
	checkRead(t, intOf(32).read, []byte{0xff, 0xff, 0xff, 0xff, 0x7f, 0}, int64(-1), 5)
	checkFails(t, intOf(1).read, []byte{1}, api.ErrLeb, 0)
	checkFails(t, intOf(7).read, []byte{0xff, 0x7f}, api.ErrLeb, 0)
	checkFails(t, intOf(8).read, []byte{0xff, 1}, api.ErrLeb, 0)
	checkFails(t, intOf(32).read, []byte{0xff, 0xff, 0xff, 0xff, 0x0f}, api.ErrLeb, 0)
	checkFails(t, intOf(32).read, []byte{0xff, 0xff, 0xff, 0xff, 0xff, 0x7f}, api.ErrLeb, 0)
	checkFails(t, intOf(64).read, append(bytes.Repeat([]byte{0xff}, 9), 1), api.ErrLeb, 0)
	checkFails(t, intOf(64).read, bytes.Repeat([]byte{0xff}, 9), api.ErrShort, 0)
}

// TestNoWidth takes numbers of bits that are none: that is said first, whatever follows.
func TestNoWidth(t *testing.T) {
	for _, bits := range []int{math.MinInt, -64, -1, 0, 65, 66, 128, math.MaxInt} {
		for _, data := range [][]byte{nil, {0}, {0x80}, {1, 2, 3}, bytes.Repeat([]byte{0x80}, 30)} {
			checkFails(t, uintOf(bits).read, data, api.ErrArg, 0)
			checkFails(t, intOf(bits).read, data, api.ErrArg, 0)
		}
	}
}

func TestVarintsOfAllWidths(t *testing.T) {
	for bits := -1; bits <= 66; bits++ {
		for n := range 12 {
			for _, x := range []byte{0x80, 0xff, 0xd5} {
				for _, last := range []byte{0, 1, 2, 3, 4, 7, 8, 0x0f, 0x10, 0x1f, 0x20, 0x3f, 0x40, 0x60, 0x70, 0x78, 0x7c, 0x7e, 0x7f, 0x80} {
					data := append(bytes.Repeat([]byte{x}, n), last)
					checkModel(t, uintOf(bits), data)
					checkModel(t, intOf(bits), data)
				}
			}
		}
	}
}

// TestVarintsAsLayer2 holds Uint and Int against the readers of leb at every offset.
func TestVarintsAsLayer2(t *testing.T) {
	data := []byte{0, 0x7f, 0x80, 1, 0xff, 0x7f, 0xe5, 0x8e, 0x26, 0xc0, 0xbb, 0x78, 0xff, 0xff, 0xff, 0xff, 0x0f, 0x80, 0x80, 0x80, 0x80, 0x70, 0x80, 0x80, 0x80, 0x80, 0x80, 0x80, 0x80, 0x80, 0x80, 1, 0xff, 0xff}
	for at := range len(data) + 1 {
		for bits := -1; bits <= 66; bits++ {
			s := scan.Over(data)
			s.Bytes(at)
			u, next, e := leb.ReadUint(data, at, bits)
			checkLeb(t, s, uintOf(bits).read, u, next, e)
			s = scan.Over(data)
			s.Bytes(at)
			i, next, e := leb.ReadInt(data, at, bits)
			checkLeb(t, s, intOf(bits).read, i, next, e)
		}
	}
}

// checkLeb checks one varint against what a reader of leb returned.
func checkLeb(t *testing.T, s *scan.Scanner, read func(s *scan.Scanner) any, v any, next int, e api.Errno) {
	t.Helper()
	at, end := s.At(), s.At()+s.Left()
	got, stop := try(s, read)
	if e != api.OK {
		if got != nil || stop != (abort.Stop{Why: e, At: at}) {
			t.Errorf("at %d: %v, %v, want %d", at, got, stop, e)
		}
		return
	}
	if got != v || stop.Why != api.OK {
		t.Errorf("at %d: %v, %v, want %v", at, got, stop, v)
	}
	checkPlace(t, "behind a varint", s, next, end-next)
}

func TestIndex(t *testing.T) {
	checkRead(t, readIndex, []byte{0, 7}, uint32(0), 1)
	checkRead(t, readIndex, []byte{0xff, 0xff, 0xff, 0xff, 0x0f}, uint32(math.MaxUint32), 5)
	checkRead(t, readIndex, []byte{0x85, 0x80, 0x80, 0x80, 0, 0}, uint32(5), 5)
	checkFails(t, readIndex, []byte{0xff, 0xff, 0xff, 0xff, 0x1f}, api.ErrLeb, 0)
	checkFails(t, readIndex, []byte{0xff, 0xff, 0xff, 0xff, 0x7f}, api.ErrLeb, 0)
	checkFails(t, readIndex, []byte{0x80, 0x80, 0x80, 0x80, 0x80, 0}, api.ErrLeb, 0)
	checkFails(t, readIndex, []byte{0x80, 0x80, 0x80, 0x80}, api.ErrShort, 0)
}

// TestSubInSub reads a part of a part: each counts from its own beginning, and has none of what is behind it.
func TestSubInSub(t *testing.T) {
	s := scan.Over([]byte("abcdefgh"))
	s.Byte()
	middle := s.Sub(5)
	checkPlace(t, "the outer one", s, 6, 2)
	checkPlace(t, "the middle one", middle, 0, 5)
	middle.Bytes(2)
	inner := middle.Sub(2)
	checkPlace(t, "the middle one", middle, 4, 1)
	checkPlace(t, "the inner one", inner, 0, 2)
	if got, stop := try(inner, bytesOf(3).read); got != nil || stop != (abort.Stop{Why: 2, At: 0}) {
		t.Errorf("more than the inner one has: %v, %v", got, stop)
	}
	if got, stop := try(middle, bytesOf(2).read); got != nil || stop != (abort.Stop{Why: 2, At: 4}) {
		t.Errorf("more than the middle one has: %v, %v", got, stop)
	}
	s = scan.Over([]byte("abcdefgh"))
	s.Byte()
	middle = s.Sub(5)
	middle.Bytes(2)
	inner = middle.Sub(2)
	if got, stop := try(inner, readEnd); got != nil || stop != (abort.Stop{Why: 14, At: 0}) {
		t.Errorf("End of the inner one: %v, %v", got, stop)
	}
	// None of them goes on when another one does.
	if got := rest(s) + rest(inner) + rest(middle); got != "ghdef" {
		t.Errorf("the rest of all three: %s", got)
	}
	for _, x := range []*scan.Scanner{s, middle, inner} {
		x.End()
	}
	if got, stop := try(inner, readByte); got != nil || stop != (abort.Stop{Why: 2, At: 2}) {
		t.Errorf("behind the inner one: %v, %v", got, stop)
	}
}

func TestEnd(t *testing.T) {
	checkRead(t, readEnd, nil, nil, 0)
	checkFails(t, readEnd, []byte{0}, api.ErrEnd, 0)
	checkFails(t, readEnd, []byte{1, 2, 3}, api.ErrEnd, 0)
	data := []byte("abcd")
	for at := range data {
		s := scan.Over(data)
		s.Bytes(at)
		if _, stop := try(s, readEnd); stop != (abort.Stop{Why: 14, At: at}) {
			t.Errorf("End at %d: %v", at, stop)
		}
	}
	s := scan.Over(data)
	s.Bytes(4)
	for range 2 {
		if _, stop := try(s, readEnd); stop != (abort.Stop{}) {
			t.Errorf("End at the end: %v", stop)
		}
	}
}

// P5.2

func TestCount(t *testing.T) {
	checkRead(t, readCount, []byte{0, 9}, 0, 1)
	checkRead(t, readCount, []byte{1}, 1, 1)
	checkRead(t, readCount, []byte{0x8f, 0x4e}, 9999, 2)
	checkRead(t, readCount, []byte{0x90, 0x4e}, 10000, 2)
	checkRead(t, readCount, []byte{0x90, 0xce, 0x80, 0x80, 0, 1}, 10000, 5)
	checkFails(t, readCount, []byte{0x91, 0x4e}, api.ErrMany, 0)
	checkFails(t, readCount, []byte{0x91, 0xce, 0x80, 0x80, 0}, api.ErrMany, 0)
	checkFails(t, readCount, []byte{0xff, 0xff, 0xff, 0xff, 7}, api.ErrMany, 0)
	checkFails(t, readCount, []byte{0x80, 0x80, 0x80, 0x80, 8}, api.ErrMany, 0)
	checkFails(t, readCount, []byte{0xff, 0xff, 0xff, 0xff, 0x0f}, api.ErrMany, 0)
	checkFails(t, readCount, []byte{0x80, 0x80, 0x80, 0x80, 0x10}, api.ErrLeb, 0)
	checkFails(t, readCount, []byte{0x91, 0xce, 0x80, 0x80, 0x80, 0}, api.ErrLeb, 0)
	checkFails(t, readCount, []byte{0x91}, api.ErrShort, 0)
}

func TestName(t *testing.T) {
	full, wide := strings.Repeat("n", 200), strings.Repeat("\u20ac", 66)+"\u00e9"
	checkRead(t, readName, []byte{0}, "", 1)
	checkRead(t, readName, []byte{0, 0xff}, "", 1)
	checkRead(t, readName, []byte{2, 'a', 'b', 'c'}, "ab", 3)
	checkRead(t, readName, []byte{0x82, 0x80, 0x80, 0x80, 0, 'a', 'b'}, "ab", 7)
	checkRead(t, readName, []byte("\x0b\x00\x7f\u00e9\u20ac\U0010ffffc"), "\x00\x7f\u00e9\u20ac\U0010ffff", 12)
	checkRead(t, readName, append([]byte{0xc8, 1}, full...), full, 202)
	checkRead(t, readName, append([]byte{0xc8, 1}, wide...), wide, 202)
	checkRead(t, readName, append([]byte{0xc7, 1}, full...), full[1:], 201)
	checkFails(t, readName, append([]byte{0xc8, 1}, full[1:]...), api.ErrShort, 2)
	checkFails(t, readName, []byte{0xc8, 1}, api.ErrShort, 2)
	checkFails(t, readName, []byte{1}, api.ErrShort, 1)
	checkFails(t, readName, []byte{3, 'a', 'b'}, api.ErrShort, 1)
}

func TestLongName(t *testing.T) {
	full := strings.Repeat("n", 300)
	checkFails(t, readName, append([]byte{0xc9, 1}, full[:201]...), api.ErrLong, 0)
	checkFails(t, readName, append([]byte{0xac, 2}, full...), api.ErrLong, 0)
	// The length is looked at before there are bytes, and before these are.
	checkFails(t, readName, []byte{0xc9, 1}, api.ErrLong, 0)
	checkFails(t, readName, append([]byte{0xc9, 1}, strings.Repeat("\xff", 201)...), api.ErrLong, 0)
	checkFails(t, readName, []byte{0xff, 0xff, 0xff, 0xff, 0x0f}, api.ErrLong, 0)
	checkFails(t, readName, []byte{0x80, 0x80, 0x80, 0x80, 8}, api.ErrLong, 0)
	checkFails(t, readName, []byte{0xff, 0xff, 0xff, 0xff, 0x1f}, api.ErrLeb, 0)
	checkFails(t, readName, []byte{0x80, 0x80, 0x80, 0x80, 0x80, 0}, api.ErrLeb, 0)
	checkFails(t, readName, []byte{0xc9}, api.ErrShort, 0)
}

func TestNameThatIsNoUTF8(t *testing.T) {
	for _, s := range []string{"\x80", "\xff", "\xc0\x80", "\xc1\xbf", "\xe0\x80\x80", "\xed\xa0\x80", "\xed\xbf\xbf", "\xf0\x80\x80\x80", "\xf4\x90\x80\x80", "\xf8\x88\x80\x80\x80", "\xe2\x82", "\xe2\x82a", "ab\xc3", "\u20ac\u20ac\xac"} {
		checkFails(t, readName, append([]byte{byte(len(s))}, s...), api.ErrUTF, 1)
		// What is behind a name does not complete it, and a longer length moves its first byte.
		checkFails(t, readName, append([]byte{byte(len(s)) | 0x80, 0}, s+"\x82\xac"...), api.ErrUTF, 2)
		// Too few bytes come first, whatever they are.
		checkFails(t, readName, append([]byte{byte(len(s) + 1)}, s...), api.ErrShort, 1)
	}
	bad := strings.Repeat("n", 199) + "\xc3"
	checkFails(t, readName, append([]byte{0xc8, 1}, bad+"\xa9"...), api.ErrUTF, 2)
}

func TestValType(t *testing.T) {
	for x := range 256 {
		for _, data := range [][]byte{{byte(x)}, {byte(x), 0x7f}, {byte(x), 0}} {
			switch x {
			case 0x7f, 0x7e:
				checkRead(t, readValType, data, byte(x), 1)
			case 0x7d, 0x7c:
				checkFails(t, readValType, data, api.ErrFloat, 0)
			default:
				checkFails(t, readValType, data, api.ErrType, 0)
			}
		}
	}
}

func TestFuncType(t *testing.T) {
	checkRead(t, readFuncType, []byte{0x60, 1, 0x7f, 0}, api.FuncType{Params: "\x7f"}, 4)
	checkRead(t, readFuncType, []byte{0x60, 0, 0, 0}, api.FuncType{}, 3)
	checkRead(t, readFuncType, []byte{0x60, 0, 1, 0x7e}, api.FuncType{Results: "\x7e"}, 4)
	checkRead(t, readFuncType, []byte{0x60, 2, 0x7f, 0x7e, 1, 0x7f, 0xff}, api.FuncType{Params: "\x7f\x7e", Results: "\x7f"}, 6)
	checkRead(t, readFuncType, []byte{0x60, 0x81, 0, 0x7e, 0x81, 0x80, 0, 0x7f}, api.FuncType{Params: "\x7e", Results: "\x7f"}, 8)
	for x := range 256 {
		if x != 0x60 {
			checkFails(t, readFuncType, []byte{byte(x), 1, 0x7f, 0}, api.ErrType, 0)
			checkFails(t, readFuncType, []byte{byte(x)}, api.ErrType, 0)
		}
		if x < 0x7e || x > 0x7f {
			why := types.Value(byte(x))
			checkFails(t, readFuncType, []byte{0x60, 2, 0x7f, byte(x), 0}, why, 3)
			checkFails(t, readFuncType, []byte{0x60, 1, 0x7f, 1, byte(x)}, why, 4)
		}
	}
}

// TestExample is the chapter's.
func TestExample(t *testing.T) {
	s := scan.Over([]byte{0x60, 0x01, 0x7f, 0x00})
	if got := s.FuncType(); got != (api.FuncType{Params: "\x7f"}) || !s.Done() {
		t.Errorf("FuncType: %v, Done: %t", got, s.Done())
	}
}

func TestManyParams(t *testing.T) {
	for _, n := range []int{1, 127, 128, 999, 1000} {
		params := strings.Repeat("\x7f\x7e", n)[:n]
		for _, results := range []string{"", "\x7f", "\x7e"} {
			data := funcBytes(leb.Uint(uint64(n)), params, []byte{byte(len(results))}, results)
			checkRead(t, readFuncType, append(data, 0x7f), api.FuncType{Params: params, Results: results}, len(data))
		}
	}
	for _, n := range []int{1001, 1002, 9999, 10000} {
		params := strings.Repeat("\x7e", n)
		head := len(leb.Uint(uint64(n))) + 1
		data := funcBytes(leb.Uint(uint64(n)), params, []byte{0}, "")
		checkFails(t, readFuncType, data, api.ErrMany, 0)
		// All that is read before comes first.
		checkFails(t, readFuncType, data[:len(data)-1], api.ErrShort, len(data)-1)
		checkFails(t, readFuncType, data[:len(data)-2], api.ErrShort, len(data)-2)
		data[len(data)-2] = 0x7c
		checkFails(t, readFuncType, data, api.ErrFloat, head+n-1)
		data = funcBytes(leb.Uint(uint64(n)), params, []byte{1}, "\x00")
		checkFails(t, readFuncType, data, api.ErrType, head+n+1)
	}
	// More than a Count may say is an error of its own, at the Count, and before the types.
	params := strings.Repeat("\x7e", 10001)
	checkFails(t, readFuncType, funcBytes(leb.Uint(10001), params, []byte{0}, ""), api.ErrMany, 1)
	checkFails(t, readFuncType, []byte{0x60, 0x91, 0x4e}, api.ErrMany, 1)
	checkFails(t, readFuncType, []byte{0x60, 1, 0x7f, 0x91, 0x4e, 0}, api.ErrMany, 3)
	checkFails(t, readFuncType, []byte{0x61, 0x91, 0x4e}, api.ErrType, 0)
}

func TestManyResults(t *testing.T) {
	checkFails(t, readFuncType, []byte{0x60, 0, 2, 0x7f, 0x7f}, api.ErrMany, 0)
	checkFails(t, readFuncType, []byte{0x60, 1, 0x7f, 3, 0x7f, 0x7e, 0x7f, 0}, api.ErrMany, 0)
	checkFails(t, readFuncType, []byte{0x60, 0, 2, 0x7f, 0x7d}, api.ErrFloat, 4)
	checkFails(t, readFuncType, []byte{0x60, 0, 2, 0x40, 0x7d}, api.ErrType, 3)
	checkFails(t, readFuncType, []byte{0x60, 0, 2, 0x7f}, api.ErrShort, 4)
	checkFails(t, readFuncType, []byte{0x60, 0, 0xff, 0xff, 0xff, 0xff, 0x1f}, api.ErrLeb, 2)
	results := strings.Repeat("\x7f", 10000)
	checkFails(t, readFuncType, funcBytes([]byte{0}, "", []byte{0x90, 0x4e}, results), api.ErrMany, 0)
	full := strings.Repeat("\x7f", 1000)
	checkFails(t, readFuncType, funcBytes([]byte{0xe8, 7}, full, []byte{2}, "\x7f\x7f"), api.ErrMany, 0)
	checkFails(t, readFuncType, funcBytes([]byte{0xe8, 7}, full, []byte{2}, "\x7f"), api.ErrShort, 1005)
}

// TestFirstErrorOfFuncType has several errors in one type each.
func TestFirstErrorOfFuncType(t *testing.T) {
	checkFails(t, readFuncType, []byte{0x70, 0x80}, api.ErrType, 0)
	checkFails(t, readFuncType, []byte{0x60, 2, 0x7d, 0x40, 2, 0, 0}, api.ErrFloat, 2)
	checkFails(t, readFuncType, []byte{0x60, 2, 0x40, 0x7d, 2, 0, 0}, api.ErrType, 2)
	checkFails(t, readFuncType, []byte{0x60, 2, 0x7f, 0x7c}, api.ErrFloat, 3)
	checkFails(t, readFuncType, []byte{0x60, 3, 0x7f, 0x7f}, api.ErrShort, 4)
	checkFails(t, readFuncType, []byte{0x60, 0x80, 0x80, 0x80, 0x80, 0x80, 0}, api.ErrLeb, 1)
	checkFails(t, readFuncType, []byte{0x60, 0x80}, api.ErrShort, 1)
	checkFails(t, readFuncType, []byte{0x60, 1, 0x7e, 0x80}, api.ErrShort, 3)
}

// P5.3

func TestLimits(t *testing.T) {
	most := []byte{0xff, 0xff, 0xff, 0xff, 0x0f}
	checkRead(t, readLimits, []byte{0, 5, 9}, api.Limits{Min: 5}, 2)
	checkRead(t, readLimits, []byte{0, 0}, api.Limits{}, 2)
	checkRead(t, readLimits, []byte{1, 5, 7, 9}, api.Limits{Min: 5, Max: 7, Bound: true}, 3)
	checkRead(t, readLimits, []byte{1, 0, 0}, api.Limits{Bound: true}, 3)
	checkRead(t, readLimits, append([]byte{0}, most...), api.Limits{Min: math.MaxUint32}, 6)
	checkRead(t, readLimits, slices.Concat([]byte{1}, most, most), api.Limits{Min: math.MaxUint32, Max: math.MaxUint32, Bound: true}, 11)
	// Limits that may not be are read as well.
	checkRead(t, readLimits, []byte{1, 7, 5}, api.Limits{Min: 7, Max: 5, Bound: true}, 3)
	checkRead(t, readLimits, append([]byte{1, 3}, most...), api.Limits{Min: 3, Max: math.MaxUint32, Bound: true}, 7)
	for x := 2; x < 256; x++ {
		checkFails(t, readLimits, []byte{byte(x), 5, 7}, api.ErrFlag, 0)
		checkFails(t, readLimits, []byte{byte(x)}, api.ErrFlag, 0)
	}
	checkFails(t, readLimits, []byte{0}, api.ErrShort, 1)
	checkFails(t, readLimits, []byte{1}, api.ErrShort, 1)
	checkFails(t, readLimits, []byte{1, 0x80}, api.ErrShort, 1)
	checkFails(t, readLimits, []byte{1, 5}, api.ErrShort, 2)
	checkFails(t, readLimits, []byte{1, 0x85, 0, 0x80}, api.ErrShort, 3)
	checkFails(t, readLimits, []byte{0, 0xff, 0xff, 0xff, 0xff, 0x1f}, api.ErrLeb, 1)
	checkFails(t, readLimits, []byte{1, 0x80, 0x80, 0x80, 0x80, 0x80, 0}, api.ErrLeb, 1)
	checkFails(t, readLimits, []byte{1, 5, 0xff, 0xff, 0xff, 0xff, 0x1f}, api.ErrLeb, 2)
}

func TestTable(t *testing.T) {
	checkRead(t, readTable, []byte{0x70, 0, 5, 9}, api.Limits{Min: 5}, 3)
	checkRead(t, readTable, []byte{0x70, 1, 5, 7, 9}, api.Limits{Min: 5, Max: 7, Bound: true}, 4)
	checkRead(t, readTable, []byte{0x70, 1, 7, 5}, api.Limits{Min: 7, Max: 5, Bound: true}, 4)
	for x := range 256 {
		if x != 0x70 {
			checkFails(t, readTable, []byte{byte(x), 0, 5}, api.ErrType, 0)
			checkFails(t, readTable, []byte{byte(x)}, api.ErrType, 0)
			checkFails(t, readTable, []byte{byte(x), 2}, api.ErrType, 0)
		}
		if x > 1 {
			checkFails(t, readTable, []byte{0x70, byte(x), 5, 7}, api.ErrFlag, 1)
		}
	}
	checkFails(t, readTable, []byte{0x70}, api.ErrShort, 1)
	checkFails(t, readTable, []byte{0x70, 0}, api.ErrShort, 2)
	checkFails(t, readTable, []byte{0x70, 1, 5}, api.ErrShort, 3)
	checkFails(t, readTable, []byte{0x70, 1, 5, 0x80, 0x80, 0x80, 0x80, 0x10}, api.ErrLeb, 3)
}

func TestGlobal(t *testing.T) {
	for _, x := range []byte{0x7f, 0x7e} {
		checkRead(t, readGlobal, []byte{x, 0, 1}, api.GlobalType{T: x}, 2)
		checkRead(t, readGlobal, []byte{x, 1, 0}, api.GlobalType{T: x, Mut: true}, 2)
		checkFails(t, readGlobal, []byte{x}, api.ErrShort, 1)
		for flag := 2; flag < 256; flag++ {
			checkFails(t, readGlobal, []byte{x, byte(flag), 0}, api.ErrFlag, 1)
		}
	}
	for x := range 0x7e {
		why := types.Value(byte(x))
		for _, flag := range []byte{0, 1, 2} {
			checkFails(t, readGlobal, []byte{byte(x), flag}, why, 0)
		}
		checkFails(t, readGlobal, []byte{byte(x)}, why, 0)
	}
}

// TestTooFewBytes cuts an element off at every place: the error is at the part that is not whole.
func TestTooFewBytes(t *testing.T) {
	for _, c := range []struct {
		e    element
		data []byte
		at   []int
	}{
		{uintOf(64), []byte{0xe5, 0x8e, 0x26}, []int{0, 0, 0}},
		{intOf(64), []byte{0xc0, 0xbb, 0x78}, []int{0, 0, 0}},
		{bytesOf(3), []byte{1, 2, 3}, []int{0, 0, 0}},
		{subOf(3), []byte{1, 2, 3}, []int{0, 0, 0}},
		{elements()[0], []byte{7}, []int{0}},
		{elements()[1], []byte{0xe5, 0x8e, 0x26}, []int{0, 0, 0}},
		{elements()[2], []byte{0x90, 0x4e}, []int{0, 0}},
		{elements()[3], []byte{0x83, 0, 'a', 'b', 'c'}, []int{0, 0, 2, 2, 2}},
		{elements()[4], []byte{0x7f}, []int{0}},
		{elements()[5], []byte{0x60, 0x82, 0, 0x7f, 0x7e, 0x81, 0, 0x7f}, []int{0, 1, 1, 3, 4, 5, 5, 7}},
		{elements()[6], []byte{1, 0xe5, 0x8e, 0x26, 0xff, 0x7f}, []int{0, 1, 1, 1, 4, 4}},
		{elements()[6], []byte{0, 0xe5, 0x8e, 0x26}, []int{0, 1, 1, 1}},
		{elements()[7], []byte{0x70, 1, 0x85, 0, 0x87, 0}, []int{0, 1, 2, 2, 4, 4}},
		{elements()[8], []byte{0x7e, 1}, []int{0, 1}},
	} {
		for n, at := range c.at {
			checkFails(t, c.e.read, c.data[:n], api.ErrShort, at)
			checkModel(t, c.e, c.data[:n])
		}
		checkModel(t, c.e, c.data)
		checkModel(t, c.e, append(slices.Clip(c.data), 0))
	}
}

// TestAsTheModel reads all short inputs of bytes that mean something to some element.
func TestAsTheModel(t *testing.T) {
	for _, e := range append(elements(), bytesOf(2), subOf(3), uintOf(5), uintOf(9), intOf(6), intOf(10)) {
		for x := range 256 {
			checkModel(t, e, []byte{byte(x)})
		}
		for n := range 4 {
			trial.Words([]byte("\x00\x01\x02\x03\x10\x40\x4e\x60\x61\x6f\x70\x7c\x7d\x7e\x7f\x80\x90\xa0\xc3\xff"), n, func(b []byte) { checkModel(t, e, b) })
		}
		trial.Words([]byte("\x00\x01\x02\x60\x70\x7e\x7f\x80"), 4, func(b []byte) { checkModel(t, e, b) })
	}
	trial.Words([]byte("\x00\x01\x02\x7d\x7f\x80"), 5, func(b []byte) {
		checkModel(t, elements()[5], append([]byte{0x60}, b...))
		checkModel(t, elements()[7], append([]byte{0x70}, b...))
	})
}

// P5.4

func TestNumbersAreReadBack(t *testing.T) {
	for _, v := range []uint64{0, 1, 63, 64, 127, 128, 624485, 1<<31 - 1, 1 << 31, math.MaxUint32, 1 << 32, 1 << 62, 1 << 63, math.MaxUint64} {
		b := leb.Uint(v)
		checkRead(t, uintOf(64).read, append(b, 0x80), v, len(b))
		if v <= math.MaxUint32 {
			checkRead(t, uintOf(32).read, b, v, len(b))
			checkRead(t, readIndex, append(b, 0xff), uint32(v), len(b))
		} else {
			checkFails(t, readIndex, b, api.ErrLeb, 0)
		}
		for _, w := range []int64{int64(v), -int64(v), -1 - int64(v)} {
			b := leb.Int(w)
			checkRead(t, intOf(64).read, append(b, 0x80), w, len(b))
			if w == int64(int32(w)) {
				checkRead(t, intOf(32).read, b, w, len(b))
			} else {
				checkFails(t, intOf(32).read, b, api.ErrLeb, 0)
			}
		}
	}
	for n := range 10001 {
		if n < 300 || n > 9990 {
			b := leb.Uint(uint64(n))
			checkRead(t, readCount, b, n, len(b))
		}
	}
}

func TestNamesAreReadBack(t *testing.T) {
	for _, s := range []string{"", "a", "memory", "\x00", "\u00e9\u20ac\U0001f40d", "\ufffd", strings.Repeat("x", 127), strings.Repeat("x", 128), strings.Repeat("\u00e9", 100)} {
		if e := utf.Check(s); e != api.OK {
			t.Fatalf("Check(%q): %d", s, e)
		}
		b := append(leb.Uint(uint64(len(s))), s...)
		checkRead(t, readName, b, s, len(b))
	}
}

func TestTypesAreReadBack(t *testing.T) {
	for _, params := range []string{"", "\x7f", "\x7e", "\x7f\x7e\x7e", strings.Repeat("\x7e", 128), strings.Repeat("\x7f", 1000)} {
		for _, results := range []string{"", "\x7f", "\x7e"} {
			f := api.FuncType{Params: params, Results: results}
			b := types.EncodeFunc(f)
			checkRead(t, readFuncType, append(b, 0), f, len(b))
		}
	}
	for _, x := range []byte{api.I32, api.I64} {
		for _, mut := range []bool{false, true} {
			g := api.GlobalType{T: x, Mut: mut}
			checkRead(t, readGlobal, append(types.EncodeGlobal(g), 0), g, 2)
		}
	}
}

func TestLimitsAreReadBack(t *testing.T) {
	edges := []uint32{0, 1, 2, 127, 128, 65535, 65536, 1<<31 - 1, 1 << 31, math.MaxUint32}
	for _, low := range edges {
		list := []api.Limits{{Min: low}}
		for _, high := range edges {
			list = append(list, api.Limits{Min: low, Max: high, Bound: true})
		}
		for _, l := range list {
			b := types.EncodeLimits(l)
			checkRead(t, readLimits, append(b, 0), l, len(b))
			b = append([]byte{api.FuncRef}, b...)
			checkRead(t, readTable, append(b, 0), l, len(b))
		}
	}
}

// P1

// TestAnyCalls reads random bytes by random calls with random arguments, and goes on behind errors: nothing but a Stop gets out, and the place stays within the bytes.
func TestAnyCalls(t *testing.T) {
	next := trial.Chance(1)
	arguments := []int{math.MinInt, -65, -1, 0, 1, 2, 3, 7, 8, 31, 32, 33, 63, 64, 65, math.MaxInt - 1, math.MaxInt}
	for range 3000 {
		data := make([]byte, next(40))
		for i := range data {
			data[i] = "\x00\x01\x02\x03\x60\x70\x7d\x7e\x7f\x80\xc3\xff"[next(12)]
		}
		s := scan.Over(data)
		for range 30 {
			n := arguments[next(len(arguments))]
			list := append(elements(), bytesOf(n), subOf(n), uintOf(n), intOf(n), element{name: "End", read: readEnd})
			e := list[next(len(list))]
			at := s.At()
			v, stop := try(s, e.read)
			if s.At() < at && stop.Why == 0 || s.At() < 0 || s.Left() < 0 || s.At()+s.Left() != len(data) || s.Done() != (s.Left() == 0) {
				t.Fatalf("%s of %s: %v, %v, At %d, Left %d, Done %t", e.name, shorten(data), v, stop, s.At(), s.Left(), s.Done())
			}
		}
	}
}

func TestManyBytes(t *testing.T) {
	const n = 1 << 20
	for _, x := range []byte{0, 1, 0x60, 0x7f, 0x80, 0xff} {
		data := bytes.Repeat([]byte{x}, n)
		for _, e := range append(elements(), bytesOf(n), subOf(n), bytesOf(n+1), uintOf(64), intOf(64)) {
			checkModel(t, e, data)
		}
	}
}

// P2

// TestBytesStay reads by all calls, and looks at the bytes, and at those behind them that there is room for.
func TestBytesStay(t *testing.T) {
	room := []byte{0x60, 1, 0x7f, 0, 0x60, 1, 0x7f, 0, 2, 'a', 'b'}
	whole := slices.Clone(room)
	for n := range len(room) + 1 {
		for _, e := range append(elements(), bytesOf(n), subOf(n), bytesOf(-1), subOf(n+1), uintOf(8), intOf(8), element{read: readEnd}) {
			s := scan.Over(room[:n])
			for range 3 {
				try(s, e.read)
			}
		}
	}
	if !bytes.Equal(room, whole) {
		t.Errorf("the bytes were % x and are % x", whole, room)
	}
	// What is behind the length is no part of the argument.
	s := scan.Over(room[:3])
	if _, stop := try(s, readFuncType); stop != (abort.Stop{Why: 2, At: 3}) {
		t.Errorf("FuncType: %v", stop)
	}
}

// TestBytesAreNotKept changes the bytes while they are read.
func TestBytesAreNotKept(t *testing.T) {
	data := []byte("abcdefgh")
	s := scan.Over(data)
	s.Byte()
	sub := s.Sub(3)
	clear(data)
	if got := rest(sub) + rest(s); got != "bcdefgh" {
		t.Errorf("%q", got)
	}
}

// TestResultsAreNew overwrites what Bytes returned with all that it has room for.
func TestResultsAreNew(t *testing.T) {
	data := []byte("abcdefgh")
	s := scan.Over(data)
	trial.Spoil(s.Bytes(0), '!')
	trial.Spoil(s.Bytes(2), '!')
	sub := s.Sub(3)
	trial.Spoil(sub.Bytes(1), '!')
	trial.Spoil(sub.Bytes(0), '!')
	first := s.Bytes(2)
	trial.Spoil(s.Bytes(0), '!')
	if got := rest(sub) + string(first) + rest(s); got != "defgh" || string(data) != "abcdefgh" {
		t.Errorf("%s, and the bytes are %s", got, data)
	}
}

// TestScannersDoNotMatter has several scanners over the same bytes.
func TestScannersDoNotMatter(t *testing.T) {
	data := []byte{3, 'a', 'b', 'c', 0x7f}
	var list []*scan.Scanner
	for range 4 {
		list = append(list, scan.Over(data))
	}
	list[0].Bytes(5)
	try(list[1], bytesOf(6).read)
	try(list[2], readFuncType)
	if got := list[3].Name(); got != "abc" {
		t.Errorf("Name: %s", got)
	}
	checkPlace(t, "the last one", list[3], 4, 1)
	checkPlace(t, "the first one", list[0], 5, 0)
	for range 3 {
		checkRead(t, readName, data, "abc", 4)
		checkFails(t, readFuncType, data, api.ErrType, 0)
	}
}
