package imports_test

import (
	"bytes"
	"math"
	"slices"
	"strings"
	"testing"
	"unicode/utf8"

	"creel/abort"
	"creel/api"
	"creel/imports"
	"creel/scan"
)

// The model is written from the chapters with numbers of its own: it takes bytes by their offsets, and asks no layer.

func modelName(s string) api.Errno {
	switch {
	case len(s) > 200:
		return 13
	case !utf8.ValidString(s):
		return 4
	}
	return 0
}

func modelType(t byte) api.Errno {
	switch t {
	case 0x7f, 0x7e:
		return 0
	case 0x7d, 0x7c:
		return 8
	}
	return 7
}

// modelRight is P10.1's first sentence.
func modelRight(x api.Import) api.Errno {
	if e := modelName(x.Module); e != 0 {
		return e
	}
	if e := modelName(x.Name); e != 0 {
		return e
	}
	if x.Kind > 3 {
		return 43
	}
	limits := x.Limits.Min != 0 || x.Limits.Max != 0 || x.Limits.Bound
	global := x.Global.T != 0 || x.Global.Mut
	switch {
	case x.Kind != 0 && x.Type != 0,
		(x.Kind == 0 || x.Kind == 3) && limits,
		x.Kind != 3 && global,
		x.Limits.Max != 0 && !x.Limits.Bound:
		return 1
	case x.Kind == 3:
		return modelType(x.Global.T)
	}
	return 0
}

// modelUint is the shortest varint of a number.
func modelUint(n uint64) string {
	if n < 128 {
		return string([]byte{byte(n)})
	}
	return string([]byte{byte(n%128 + 128)}) + modelUint(n/128)
}

func modelLimits(l api.Limits) string {
	if l.Bound {
		return "\x01" + modelUint(uint64(l.Min)) + modelUint(uint64(l.Max))
	}
	return "\x00" + modelUint(uint64(l.Min))
}

// modelPut is P10.1's last sentence, of an import that may be.
func modelPut(x api.Import) string {
	s := modelUint(uint64(len(x.Module))) + x.Module + modelUint(uint64(len(x.Name))) + x.Name
	switch x.Kind {
	case 0:
		return s + "\x00" + modelUint(uint64(x.Type))
	case 1:
		return s + "\x01\x70" + modelLimits(x.Limits)
	case 2:
		return s + "\x02" + modelLimits(x.Limits)
	}
	if x.Global.Mut {
		return s + "\x03" + string([]byte{x.Global.T}) + "\x01"
	}
	return s + "\x03" + string([]byte{x.Global.T}) + "\x00"
}

// model reads bytes: at is where it is, stop the first error, behind which it reads no more.
type model struct {
	b    []byte
	at   int
	stop abort.Stop
}

func (m *model) fail(why api.Errno, at int) {
	if m.stop.Why == 0 {
		m.stop = abort.Stop{Why: why, At: at}
	}
}

// byte is the next one; wrong tells the error that it is, if any.
func (m *model) byte(wrong func(x byte) api.Errno) byte {
	if m.stop.Why != 0 {
		return 0
	}
	if m.at == len(m.b) {
		m.fail(2, m.at)
		return 0
	}
	x := m.b[m.at]
	if e := wrong(x); e != 0 {
		m.fail(e, m.at)
	}
	m.at++
	return x
}

// index is a varint of 32 bits that is not above a limit.
func (m *model) index(most uint64, why api.Errno) uint32 {
	if m.stop.Why != 0 {
		return 0
	}
	v, from := uint64(0), m.at
	for i := range 5 {
		if m.at == len(m.b) {
			m.fail(2, from)
			return 0
		}
		x := uint64(m.b[m.at])
		m.at++
		v += x % 128 << (7 * i)
		if x >= 128 {
			continue
		}
		if v > 0xffffffff {
			m.fail(3, from)
		}
		if v > most {
			m.fail(why, from)
		}
		return uint32(v)
	}
	m.fail(3, from)
	return 0
}

func (m *model) name() string {
	n := int(m.index(200, 13))
	if m.stop.Why != 0 {
		return ""
	}
	if n > len(m.b)-m.at {
		m.fail(2, m.at)
		return ""
	}
	s := string(m.b[m.at : m.at+n])
	if !utf8.ValidString(s) {
		m.fail(4, m.at)
	}
	m.at += n
	return s
}

// upTo tells an error for a byte above a limit.
func upTo(most byte, why api.Errno) func(x byte) api.Errno {
	return func(x byte) api.Errno {
		if x > most {
			return why
		}
		return 0
	}
}

func (m *model) limits() api.Limits {
	var l api.Limits
	l.Bound = m.byte(upTo(1, 10)) == 1
	l.Min = m.index(math.MaxUint32, 0)
	if l.Bound {
		l.Max = m.index(math.MaxUint32, 0)
	}
	return l
}

// next is P10.2's first sentence.
func (m *model) next() api.Import {
	var x api.Import
	x.Module = m.name()
	x.Name = m.name()
	x.Kind = m.byte(upTo(3, 43))
	switch x.Kind {
	case 0:
		x.Type = m.index(math.MaxUint32, 0)
	case 1:
		m.byte(func(x byte) api.Errno {
			if x != 0x70 {
				return 7
			}
			return 0
		})
		x.Limits = m.limits()
	case 2:
		x.Limits = m.limits()
	case 3:
		x.Global.T = m.byte(modelType)
		x.Global.Mut = m.byte(upTo(1, 10)) == 1
	}
	if m.stop.Why != 0 {
		return api.Import{}
	}
	return x
}

// modelGetAll is P10.2's second sentence.
func modelGetAll(b []byte) ([]api.Import, abort.Stop) {
	m := model{b: b}
	var list []api.Import
	for range m.index(10000, 29) {
		if m.stop.Why == 0 {
			list = append(list, m.next())
		}
	}
	if m.at != len(b) {
		m.fail(14, m.at)
	}
	if m.stop.Why != 0 {
		return nil, m.stop
	}
	return list, abort.Stop{}
}

// modelPutAll is P10.2's last sentence.
func modelPutAll(list []api.Import) (string, api.Errno) {
	if len(list) > 10000 {
		return "", 29
	}
	var s strings.Builder
	s.WriteString(modelUint(uint64(len(list))))
	for _, x := range list {
		if e := modelRight(x); e != 0 {
			return "", e
		}
		s.WriteString(modelPut(x))
	}
	return s.String(), 0
}

// modelOf is P10.3's first sentence.
func modelOf(list []api.Import, kind byte) []api.Import {
	return slices.DeleteFunc(slices.Clone(list), func(x api.Import) bool { return x.Kind != kind })
}

// modelPlace is P10.3's last sentence: the index, or -1.
func modelPlace(list []api.Import, kind byte, module, name string) int {
	return slices.IndexFunc(modelOf(list, kind), func(x api.Import) bool {
		return [2]string{x.Module, x.Name} == [2]string{module, name}
	})
}

// Checks.

// short is what of bytes is worth telling.
func short[B string | []byte](b B) B { return b[:min(len(b), 40)] }

// told is an import with no more of its names than is worth telling.
func told(x api.Import) api.Import {
	x.Module, x.Name = short(x.Module), short(x.Name)
	return x
}

// checkRight checks the error of an import, and that Put has it, too, and bytes only if there is none.
func checkRight(t *testing.T, x api.Import, want api.Errno) {
	t.Helper()
	if got := imports.Right(x); got != want {
		t.Errorf("Right(%+v): %d, want %d", told(x), got, want)
	}
	b, e := imports.Put(x)
	if e != want {
		t.Errorf("Put(%+v): %d, want %d", told(x), e, want)
	}
	if want != 0 && len(b) != 0 {
		t.Errorf("Put(%+v): % x beside an error", told(x), short(b))
	}
}

func checkPut(t *testing.T, x api.Import, want string) {
	t.Helper()
	checkRight(t, x, 0)
	if b, _ := imports.Put(x); string(b) != want {
		t.Errorf("Put(%+v): % x, want % x", told(x), short(b), short(want))
	}
}

// checkPutModel checks that an import is encoded, or not, as the model says.
func checkPutModel(t *testing.T, x api.Import) {
	t.Helper()
	if e := modelRight(x); e != 0 {
		checkRight(t, x, e)
	} else {
		checkPut(t, x, modelPut(x))
	}
}

// place is a scanner that stands before some bytes, and the offset that it has there.
type place struct {
	s  *scan.Scanner
	at int
}

// places are before some bytes alone, behind others, and in a part of others.
func places(b []byte) []place {
	behind := scan.Over(slices.Concat([]byte{0x01, 0x01, 0x00}, b))
	behind.Bytes(3)
	outer := scan.Over(slices.Concat([]byte{0x41}, b, []byte{0x00, 0x00, 0x00}))
	outer.Byte()
	inner := outer.Sub(len(b))
	far := scan.Over(slices.Concat(make([]byte, 1000), b))
	far.Bytes(1000)
	return []place{{scan.Over(b), 0}, {behind, 3}, {inner, 0}, {far, 1000}}
}

// try reads an import, and returns the error with which that aborts.
func try(s *scan.Scanner) (api.Import, abort.Stop) {
	return abort.Value(func() api.Import { return imports.Get(s) })
}

// tryAll reads a list, likewise.
func tryAll(s *scan.Scanner) ([]api.Import, abort.Stop) {
	return abort.Value(func() []api.Import { return imports.GetAll(s) })
}

// checkGet checks that bytes begin with an import of so many bytes.
func checkGet(t *testing.T, b string, want api.Import, n int) {
	t.Helper()
	for which, p := range places([]byte(b)) {
		got, stop := try(p.s)
		if got != want || stop != (abort.Stop{}) {
			t.Errorf("Get of % x, place %d: %+v, %v, want %+v", short(b), which, told(got), stop, told(want))
		}
		if p.s.At() != p.at+n || p.s.Left() != len(b)-n {
			t.Errorf("Get of % x, place %d: then At %d and Left %d, want %d and %d", short(b), which, p.s.At(), p.s.Left(), p.at+n, len(b)-n)
		}
	}
}

// checkNoGet checks that bytes begin with no import, and why, and where.
func checkNoGet(t *testing.T, b string, why api.Errno, at int) {
	t.Helper()
	for which, p := range places([]byte(b)) {
		got, stop := try(p.s)
		if got != (api.Import{}) || stop != (abort.Stop{Why: why, At: p.at + at}) {
			t.Errorf("Get of % x, place %d: %+v, %v, want %d at %d", short(b), which, told(got), stop, why, p.at+at)
		}
	}
}

// checkGetModel checks that bytes begin with an import, or not, as the model says.
func checkGetModel(t *testing.T, b string) {
	t.Helper()
	m := model{b: []byte(b)}
	x := m.next()
	if m.stop.Why == 0 {
		checkGet(t, b, x, m.at)
	} else {
		checkNoGet(t, b, m.stop.Why, m.stop.At)
	}
}

// checkGetAll checks that bytes are a list.
func checkGetAll(t *testing.T, b string, want []api.Import) {
	t.Helper()
	for which, p := range places([]byte(b)) {
		got, stop := tryAll(p.s)
		if !slices.Equal(got, want) || stop != (abort.Stop{}) {
			t.Errorf("GetAll of % x (%d bytes), place %d: %d imports, %v, want %d", short(b), len(b), which, len(got), stop, len(want))
		}
		if p.s.At() != p.at+len(b) || !p.s.Done() {
			t.Errorf("GetAll of % x (%d bytes), place %d: then At %d", short(b), len(b), which, p.s.At())
		}
	}
}

// checkNoGetAll checks that bytes are no list, and why, and where.
func checkNoGetAll(t *testing.T, b string, why api.Errno, at int) {
	t.Helper()
	for which, p := range places([]byte(b)) {
		got, stop := tryAll(p.s)
		if len(got) != 0 || stop != (abort.Stop{Why: why, At: p.at + at}) {
			t.Errorf("GetAll of % x (%d bytes), place %d: %d imports, %v, want %d at %d", short(b), len(b), which, len(got), stop, why, p.at+at)
		}
	}
}

// checkGetAllModel checks that bytes are a list, or not, as the model says.
func checkGetAllModel(t *testing.T, b string) {
	t.Helper()
	want, stop := modelGetAll([]byte(b))
	if stop.Why == 0 {
		checkGetAll(t, b, want)
	} else {
		checkNoGetAll(t, b, stop.Why, stop.At)
	}
}

// checkPutAll checks the bytes of a list, or its error and that there are none.
func checkPutAll(t *testing.T, list []api.Import, want string, e api.Errno) {
	t.Helper()
	b, got := imports.PutAll(list)
	if got != e || string(b) != want {
		t.Errorf("PutAll of %d imports: % x (%d bytes), %d, want % x (%d bytes), %d", len(list), short(b), len(b), got, short(want), len(want), e)
	}
}

func checkPutAllModel(t *testing.T, list []api.Import) {
	t.Helper()
	want, e := modelPutAll(list)
	checkPutAll(t, list, want, e)
}

// checkOf checks the imports of a kind, and their number.
func checkOf(t *testing.T, list []api.Import, kind byte, want []api.Import) {
	t.Helper()
	if got := imports.Of(list, kind); !slices.Equal(got, want) {
		t.Errorf("Of %d in %d imports: %+v, want %+v", kind, len(list), got, want)
	}
	if got := imports.Count(list, kind); got != len(want) {
		t.Errorf("Count of %d in %d imports: %d, want %d", kind, len(list), got, len(want))
	}
}

// checkPlace checks that the import at an index, or none for -1, is found.
func checkPlace(t *testing.T, list []api.Import, kind byte, module, name string, want int) {
	t.Helper()
	got, ok := imports.Place(list, kind, module, name)
	if got != max(want, 0) || ok != (want >= 0) {
		t.Errorf("Place(%d, %q, %q) in %d imports: %d, %v, want %d", kind, module, name, len(list), got, ok, want)
	}
}

// words are all the strings of so many bytes of an alphabet.
func words(alphabet string, n int, f func(s string)) {
	if n == 0 {
		f("")
		return
	}
	words(alphabet, n-1, func(s string) {
		for at := range len(alphabet) {
			f(s + alphabet[at:at+1])
		}
	})
}

const most = math.MaxUint32

// plain is an import of each kind with as little in it as may be.
func plain(kind byte) api.Import {
	x := api.Import{Kind: kind}
	if kind == 3 {
		x.Global.T = 0x7f
	}
	return x
}

// sample is an import, and the bytes that it has.
type sample struct {
	x api.Import
	b string
}

func samples() []sample {
	long := strings.Repeat("n", 200)
	limits := func(min, max uint32) api.Limits { return api.Limits{Min: min, Max: max, Bound: true} }
	list := []sample{
		{api.Import{Module: "env", Name: "f", Type: 5}, "\x03env\x01f\x00\x05"},
		{api.Import{}, "\x00\x00\x00\x00"},
		{api.Import{Module: "a"}, "\x01a\x00\x00\x00"},
		{api.Import{Name: "a"}, "\x00\x01a\x00\x00"},
		{api.Import{Module: "\u20ac", Name: "\x00\"\x7f\n", Type: 1}, "\x03\xe2\x82\xac\x04\x00\"\x7f\n\x00\x01"},
		{api.Import{Module: "ab", Name: "abc", Type: 127}, "\x02ab\x03abc\x00\x7f"},
		{api.Import{Type: 128}, "\x00\x00\x00\x80\x01"},
		{api.Import{Type: 1<<31 - 1}, "\x00\x00\x00\xff\xff\xff\xff\x07"},
		{api.Import{Type: 1 << 31}, "\x00\x00\x00\x80\x80\x80\x80\x08"},
		{api.Import{Type: most}, "\x00\x00\x00\xff\xff\xff\xff\x0f"},
		{api.Import{Module: long, Name: long[:128]}, "\xc8\x01" + long + "\x80\x01" + long[:128] + "\x00\x00"},
		{api.Import{Module: long[:127], Name: long}, "\x7f" + long[:127] + "\xc8\x01" + long + "\x00\x00"},
		{api.Import{Kind: 1}, "\x00\x00\x01\x70\x00\x00"},
		{api.Import{Module: "env", Name: "t", Kind: 1, Limits: api.Limits{Min: 3}}, "\x03env\x01t\x01\x70\x00\x03"},
		{api.Import{Module: "env", Name: "t", Kind: 1, Limits: limits(3, 300)}, "\x03env\x01t\x01\x70\x01\x03\xac\x02"},
		{api.Import{Kind: 1, Limits: api.Limits{Min: most}}, "\x00\x00\x01\x70\x00\xff\xff\xff\xff\x0f"},
		{api.Import{Kind: 1, Limits: limits(most, most)}, "\x00\x00\x01\x70\x01\xff\xff\xff\xff\x0f\xff\xff\xff\xff\x0f"},
		{api.Import{Module: "env", Name: "m", Kind: 2, Limits: api.Limits{Min: 2}}, "\x03env\x01m\x02\x00\x02"},
		{api.Import{Module: "env", Name: "m", Kind: 2, Limits: limits(1, 65536)}, "\x03env\x01m\x02\x01\x01\x80\x80\x04"},
		{api.Import{Kind: 2, Limits: limits(0, 0)}, "\x00\x00\x02\x01\x00\x00"},
		{api.Import{Kind: 2, Limits: limits(5, 4)}, "\x00\x00\x02\x01\x05\x04"}, // nobody asks whether they may be
		{api.Import{Kind: 2, Limits: limits(0, most)}, "\x00\x00\x02\x01\x00\xff\xff\xff\xff\x0f"},
		{api.Import{Kind: 2, Limits: limits(most, 0)}, "\x00\x00\x02\x01\xff\xff\xff\xff\x0f\x00"},
		{api.Import{Kind: 2, Limits: api.Limits{Min: most}}, "\x00\x00\x02\x00\xff\xff\xff\xff\x0f"},
		{api.Import{Module: "env", Name: "g", Kind: 3, Global: api.GlobalType{T: 0x7f}}, "\x03env\x01g\x03\x7f\x00"},
		{api.Import{Module: "env", Name: "g", Kind: 3, Global: api.GlobalType{T: 0x7e, Mut: true}}, "\x03env\x01g\x03\x7e\x01"},
		{api.Import{Kind: 3, Global: api.GlobalType{T: 0x7f, Mut: true}}, "\x00\x00\x03\x7f\x01"},
		{api.Import{Kind: 3, Global: api.GlobalType{T: 0x7e}}, "\x00\x00\x03\x7e\x00"},
	}
	return list
}

// wrong are imports that may not be, one for each way to be so.
func wrong() []struct {
	x api.Import
	e api.Errno
} {
	return []struct {
		x api.Import
		e api.Errno
	}{
		{api.Import{Module: strings.Repeat("n", 201)}, 13},
		{api.Import{Name: strings.Repeat("n", 201)}, 13},
		{api.Import{Module: "\xff"}, 4},
		{api.Import{Name: "\xff"}, 4},
		{api.Import{Kind: 4}, 43},
		{api.Import{Kind: 255}, 43},
		{api.Import{Kind: 1, Type: 1}, 1},
		{api.Import{Limits: api.Limits{Min: 1}}, 1},
		{api.Import{Kind: 2, Limits: api.Limits{Max: 1}}, 1},
		{api.Import{Kind: 2, Global: api.GlobalType{Mut: true}}, 1},
		{api.Import{Kind: 3}, 7},
		{api.Import{Kind: 3, Global: api.GlobalType{T: 0x7d}}, 8},
	}
}

// P10.1

func TestEveryKind(t *testing.T) {
	for kind := range 256 {
		want := api.Errno(0)
		if kind > 3 {
			want = 43
		}
		checkRight(t, plain(byte(kind)), want)
		x := plain(byte(kind))
		x.Module, x.Name = "env", "f"
		checkRight(t, x, want)
	}
}

func TestNames(t *testing.T) {
	long := strings.Repeat("n", 201)
	for _, x := range []struct {
		s string
		e api.Errno
	}{
		{"", 0},
		{"a", 0},
		{"\x00", 0},
		{"\u20ac\U0010ffff", 0},
		{long[:127], 0},
		{long[:128], 0},
		{long[:199], 0},
		{long[:200], 0},
		{strings.Repeat("\u20ac", 66) + "ab", 0},
		{long, 13},
		{strings.Repeat("\u20ac", 67), 13}, // bytes count, not signs
		{long + long, 13},
		{long[:200] + "\xff", 13},
		{"\xff" + long, 13},
		{"\xff", 4},
		{"\x80", 4},
		{"a\xe2\x82", 4},
		{"\xed\xa0\x80", 4},
		{"\xff" + long[:199], 4},
		{long[:199] + "\xff", 4},
	} {
		for kind := range byte(4) {
			y := plain(kind)
			y.Module = x.s
			checkRight(t, y, x.e)
			y.Name = "f"
			checkRight(t, y, x.e)
			y.Module, y.Name = "", x.s
			checkRight(t, y, x.e)
			y.Module = "env"
			checkRight(t, y, x.e)
			y.Module = x.s
			checkRight(t, y, x.e)
		}
	}
}

// TestWhichErrorCounts has two errors in each import.
func TestWhichErrorCounts(t *testing.T) {
	long, odd := strings.Repeat("n", 201), "\xff"
	one := api.Limits{Min: 1}
	for _, x := range []struct {
		x api.Import
		e api.Errno
	}{
		// Both names.
		{api.Import{Module: long, Name: odd}, 13},
		{api.Import{Module: odd, Name: long}, 4},
		{api.Import{Module: long, Name: long}, 13},
		{api.Import{Module: odd, Name: odd}, 4},
		// A name and the kind.
		{api.Import{Module: long, Kind: 4}, 13},
		{api.Import{Module: odd, Kind: 255}, 4},
		{api.Import{Name: long, Kind: 255}, 13},
		{api.Import{Name: odd, Kind: 4}, 4},
		// A name and a field.
		{api.Import{Module: long, Limits: one}, 13},
		{api.Import{Name: odd, Kind: 1, Type: 1}, 4},
		{api.Import{Name: long, Kind: 2, Limits: api.Limits{Max: 1}}, 13},
		// A name and a global's type.
		{api.Import{Module: odd, Kind: 3}, 4},
		{api.Import{Name: long, Kind: 3, Global: api.GlobalType{T: 0x7d}}, 13},
		// The kind and a field: none belongs to a kind that there is not.
		{api.Import{Kind: 4, Type: 1}, 43},
		{api.Import{Kind: 4, Limits: one}, 43},
		{api.Import{Kind: 255, Limits: api.Limits{Max: 1}}, 43},
		{api.Import{Kind: 4, Global: api.GlobalType{T: 0x7d}}, 43},
		{api.Import{Kind: 128, Type: 1, Limits: one, Global: api.GlobalType{T: 1, Mut: true}}, 43},
		// A field and a global's type.
		{api.Import{Kind: 3, Type: 1}, 1},
		{api.Import{Kind: 3, Type: 1, Global: api.GlobalType{T: 0x7d}}, 1},
		{api.Import{Kind: 3, Limits: one, Global: api.GlobalType{T: 0x7c}}, 1},
		{api.Import{Kind: 3, Limits: api.Limits{Max: 1}}, 1},
		{api.Import{Kind: 3, Limits: api.Limits{Bound: true}, Global: api.GlobalType{T: 0x70}}, 1},
	} {
		checkRight(t, x.x, x.e)
	}
}

// TestFieldsOfOtherKinds has every one alone, with the smallest and the largest value.
func TestFieldsOfOtherKinds(t *testing.T) {
	fields := []struct {
		kinds string // those that it belongs to
		set   func(x *api.Import)
	}{
		{"\x00", func(x *api.Import) { x.Type = 1 }},
		{"\x00", func(x *api.Import) { x.Type = most }},
		{"\x01\x02", func(x *api.Import) { x.Limits.Min = 1 }},
		{"\x01\x02", func(x *api.Import) { x.Limits.Min = most }},
		{"\x01\x02", func(x *api.Import) { x.Limits.Bound = true }},
		{"\x01\x02", func(x *api.Import) { x.Limits.Bound, x.Limits.Max = true, 1 }},
		{"", func(x *api.Import) { x.Limits.Max = 1 }},
		{"", func(x *api.Import) { x.Limits.Max = most }},
		{"\x03", func(x *api.Import) { x.Global.T = 0x7e }},
		{"\x03", func(x *api.Import) { x.Global.Mut = true }},
	}
	for _, f := range fields {
		for kind := range byte(4) {
			x := plain(kind)
			f.set(&x)
			want := api.Errno(1)
			if strings.IndexByte(f.kinds, kind) >= 0 {
				want = 0
			}
			checkRight(t, x, want)
			x.Module, x.Name = "env", "f"
			checkRight(t, x, want)
		}
	}
	// Types that are none, too: they are not what is wrong with them.
	for b := 1; b < 256; b++ {
		for kind := range byte(3) {
			checkRight(t, api.Import{Kind: kind, Global: api.GlobalType{T: byte(b)}}, 1)
		}
	}
}

func TestLimits(t *testing.T) {
	for kind := byte(1); kind < 3; kind++ {
		for _, a := range []uint32{0, 1, 2, 127, 128, 65536, 65537, 1<<31 - 1, 1 << 31, most - 1, most} {
			checkRight(t, api.Import{Kind: kind, Limits: api.Limits{Min: a}}, 0)
			for _, b := range []uint32{0, 1, 2, 127, 128, 65536, 65537, 1<<31 - 1, 1 << 31, most - 1, most} {
				checkRight(t, api.Import{Kind: kind, Limits: api.Limits{Min: a, Max: b, Bound: true}}, 0)
				if b > 0 {
					checkRight(t, api.Import{Kind: kind, Limits: api.Limits{Min: a, Max: b}}, 1)
				}
			}
		}
	}
}

func TestEveryTypeOfAGlobal(t *testing.T) {
	for b := range 256 {
		want := api.Errno(7)
		switch b {
		case 0x7f, 0x7e:
			want = 0
		case 0x7d, 0x7c:
			want = 8
		}
		for _, mut := range []bool{false, true} {
			checkRight(t, api.Import{Kind: 3, Global: api.GlobalType{T: byte(b), Mut: mut}}, want)
			checkRight(t, api.Import{Module: "env", Name: "g", Kind: 3, Global: api.GlobalType{T: byte(b), Mut: mut}}, want)
		}
	}
}

func TestPut(t *testing.T) {
	for _, x := range samples() {
		checkPut(t, x.x, x.b)
	}
}

func TestPutOfWrongOnes(t *testing.T) {
	for _, x := range wrong() {
		checkRight(t, x.x, x.e)
	}
}

// TestExample is the chapter's.
func TestExample(t *testing.T) {
	x := api.Import{Module: "env", Name: "f", Kind: api.KindFunc, Type: 5}
	checkPut(t, x, "\x03env\x01\x66\x00\x05")
	checkGet(t, "\x03env\x01\x66\x00\x05", x, 8)
}

// TestAllFields has all values at the edges of all fields with each other.
func TestAllFields(t *testing.T) {
	names := []string{"", "a", strings.Repeat("n", 200), strings.Repeat("n", 201), "\xff"}
	numbers := []uint32{0, 1, most}
	var fields []api.Import
	for _, typ := range numbers {
		for _, min := range numbers {
			for _, max := range numbers {
				for _, b := range []byte{0, 1, 0x70, 0x7c, 0x7d, 0x7e, 0x7f, 0x80} {
					for bits := range 4 {
						fields = append(fields, api.Import{Type: typ, Limits: api.Limits{Min: min, Max: max, Bound: bits&1 > 0}, Global: api.GlobalType{T: b, Mut: bits&2 > 0}})
					}
				}
			}
		}
	}
	for _, module := range names {
		for _, name := range names {
			for _, kind := range []byte{0, 1, 2, 3, 4, 255} {
				for _, x := range fields {
					x.Module, x.Name, x.Kind = module, name, kind
					checkPutModel(t, x)
				}
			}
		}
	}
}

// P10.2

func TestGet(t *testing.T) {
	for _, x := range samples() {
		checkGet(t, x.b, x.x, len(x.b))
	}
}

// TestGetStopsBehindTheImport: whatever is behind it is left, also what would go on with a varint.
func TestGetStopsBehindTheImport(t *testing.T) {
	for _, x := range samples() {
		for more := range 256 {
			checkGet(t, x.b+string([]byte{byte(more)}), x.x, len(x.b))
		}
		checkGet(t, x.b+x.b, x.x, len(x.b))
	}
}

// TestGetInTurn has imports behind each other, read by one scanner.
func TestGetInTurn(t *testing.T) {
	var all string
	for _, x := range samples() {
		all += x.b
	}
	s, at := scan.Over([]byte(all)), 0
	for _, x := range samples() {
		at += len(x.b)
		if got, stop := try(s); got != x.x || stop != (abort.Stop{}) || s.At() != at {
			t.Errorf("Get: %+v, %v, then At %d, want %+v, then %d", told(got), stop, s.At(), told(x.x), at)
		}
	}
	if got, stop := try(s); got != (api.Import{}) || stop != (abort.Stop{Why: 2, At: len(all)}) {
		t.Errorf("Get behind the last one: %+v, %v", told(got), stop)
	}
}

// TestCutOff cuts imports off at every place: the error is at the part that is not whole.
func TestCutOff(t *testing.T) {
	for _, x := range []struct {
		b     string
		parts []int // where a part of it begins
	}{
		{"\x03env\x01f\x00\x05", []int{0, 1, 4, 5, 6, 7}},
		{"\x00\x00\x00\x85\x80\x00", []int{0, 1, 2, 3}},
		{"\x83\x00env\x81\x80\x00f\x00\x05", []int{0, 2, 5, 8, 9, 10}},
		{"\x00\x03\xe2\x82\xac\x01\x70\x00\x83\x00", []int{0, 1, 2, 5, 6, 7, 8}},
		{"\x01a\x01b\x01\x70\x01\x83\x00\x84\x80\x00", []int{0, 1, 2, 3, 4, 5, 6, 7, 9}},
		{"\x01a\x01b\x02\x00\xff\xff\xff\xff\x0f", []int{0, 1, 2, 3, 4, 5, 6}},
		{"\x02ab\x00\x02\x01\xff\xff\xff\xff\x0f\x80\x80\x80\x80\x08", []int{0, 1, 3, 4, 5, 6, 11}},
		{"\x02ab\x00\x03\x7f\x00", []int{0, 1, 3, 4, 5, 6}},
		{"\x00\x02ab\x03\x7e\x01", []int{0, 1, 2, 4, 5, 6}},
	} {
		for n := range len(x.b) {
			at := 0
			for _, from := range x.parts {
				if from <= n {
					at = from
				}
			}
			checkNoGet(t, x.b[:n], 2, at)
		}
		m := model{b: []byte(x.b)}
		checkGet(t, x.b, m.next(), len(x.b))
	}
	for _, x := range samples() {
		for n := range len(x.b) {
			checkGetModel(t, x.b[:n])
		}
	}
}

// TestEveryByteAsTheKind has what is right for each kind behind it, nothing, or what is right for none.
func TestEveryByteAsTheKind(t *testing.T) {
	for kind := 4; kind < 256; kind++ {
		for _, more := range []string{"", "\x00", "\x05", "\x70\x00\x03", "\x00\x03", "\x01\x03\x04", "\x7f\x00", "\xff\xff\xff\xff\xff"} {
			checkNoGet(t, "\x00\x00"+string([]byte{byte(kind)})+more, 43, 2)
			checkNoGet(t, "\x03env\x01f"+string([]byte{byte(kind)})+more, 43, 6)
		}
	}
	env := func(x api.Import) api.Import {
		x.Module, x.Name = "env", "f"
		return x
	}
	checkGet(t, "\x03env\x01f\x00\x70\x00\x03", env(api.Import{Type: 0x70}), 8)
	checkGet(t, "\x03env\x01f\x01\x70\x00\x03", env(api.Import{Kind: 1, Limits: api.Limits{Min: 3}}), 10)
	checkGet(t, "\x03env\x01f\x02\x00\x03\x04", env(api.Import{Kind: 2, Limits: api.Limits{Min: 3}}), 9)
	checkGet(t, "\x03env\x01f\x03\x7f\x00\x03", env(api.Import{Kind: 3, Global: api.GlobalType{T: 0x7f}}), 9)
}

func TestEveryByteAsTheBeginningOfATable(t *testing.T) {
	for b := range 256 {
		for _, more := range []string{"", "\x00", "\x00\x03", "\x01\x03\x04", "\x02"} {
			s := "\x01t\x00\x01" + string([]byte{byte(b)}) + more
			if b != 0x70 {
				checkNoGet(t, s, 7, 4)
			}
			checkGetModel(t, s)
		}
	}
	checkGet(t, "\x01t\x00\x01\x70\x01\x03\x04", api.Import{Module: "t", Kind: 1, Limits: api.Limits{Min: 3, Max: 4, Bound: true}}, 8)
}

func TestEveryByteAsTheFlagOfLimits(t *testing.T) {
	for b := 2; b < 256; b++ {
		for _, more := range []string{"", "\x03", "\x03\x04", "\xff\xff\xff\xff\xff"} {
			checkNoGet(t, "\x01m\x00\x02"+string([]byte{byte(b)})+more, 10, 4)
			checkNoGet(t, "\x01t\x00\x01\x70"+string([]byte{byte(b)})+more, 10, 5)
		}
	}
	checkGet(t, "\x01m\x00\x02\x00\x03\x04", api.Import{Module: "m", Kind: 2, Limits: api.Limits{Min: 3}}, 6)
	checkGet(t, "\x01m\x00\x02\x01\x03\x04", api.Import{Module: "m", Kind: 2, Limits: api.Limits{Min: 3, Max: 4, Bound: true}}, 7)
}

// TestEveryByteAsAGlobal has it as the type, and as what tells whether it may change: the type counts first.
func TestEveryByteAsAGlobal(t *testing.T) {
	for b := range 256 {
		x := string([]byte{byte(b)})
		for _, more := range []string{"", "\x00", "\x01", "\x02", "\xff"} {
			if e := modelType(byte(b)); e != 0 {
				checkNoGet(t, "\x01g\x00\x03"+x+more, e, 4)
			}
			checkGetModel(t, "\x01g\x00\x03"+x+more)
		}
		for _, typ := range []string{"\x7f", "\x7e"} {
			if b > 1 {
				checkNoGet(t, "\x01g\x00\x03"+typ+x, 10, 5)
				continue
			}
			checkGet(t, "\x01g\x00\x03"+typ+x, api.Import{Module: "g", Kind: 3, Global: api.GlobalType{T: typ[0], Mut: b == 1}}, 6)
		}
	}
}

// TestNamesTooLong has lengths above the limit, whether or not the bytes are there.
func TestNamesTooLong(t *testing.T) {
	full := strings.Repeat("n", 201)
	for _, lead := range []string{"", "\x00", "\x03env", "\xc8\x01" + full[:200]} {
		// Behind a lead it is the Name, otherwise the Module.
		at := len(lead)
		checkNoGet(t, lead+"\xc9\x01"+full+"\x00\x00\x00", 13, at)
		checkNoGet(t, lead+"\xc9\x01"+full[:200]+"\xff\x00\x00\x00", 13, at)
		checkNoGet(t, lead+"\xc9\x01", 13, at)
		checkNoGet(t, lead+"\xc9\x81\x80\x80\x00", 13, at)
		checkNoGet(t, lead+"\xff\x7f", 13, at)
		checkNoGet(t, lead+"\xff\xff\xff\xff\x07", 13, at)
		checkNoGet(t, lead+"\x80\x80\x80\x80\x08", 13, at)
		checkNoGet(t, lead+"\xff\xff\xff\xff\x0f", 13, at)
		checkNoGet(t, lead+"\x80\x80\x80\x80\x10", 3, at)
		checkNoGet(t, lead+"\x80\x80\x80\x80\x80\x00", 3, at)
		checkNoGet(t, lead+"\xc8\x01"+full[:199], 2, at+2)
	}
}

func TestNamesNotUTF8(t *testing.T) {
	for _, name := range []string{"\x80", "\xff", "\xc0\x80", "\xe2\x82", "\xed\xa0\x80", "\xf4\x90\x80\x80", "a\xff", "abc\xe2\x82", "\u20ac\xff"} {
		for _, more := range []string{"", "\x00", "\x00\x00\x00", "\x04", "\x01\xff\x00\x00", "\xac\x80\x80"} {
			s := modelUint(uint64(len(name))) + name + more
			checkNoGet(t, s, 4, 1)
			checkNoGet(t, "\x00"+s, 4, 2)
			checkNoGet(t, "\x03env"+s, 4, 5)
		}
	}
	checkNoGet(t, "\x81\x00\xff\x00\x00\x00", 4, 2)
	checkNoGet(t, "\x00\x81\x80\x00\xff\x00\x00", 4, 4)
	checkNoGet(t, "\xc8\x01"+strings.Repeat("n", 199)+"\xff\x00\x00\x00", 4, 2)
	// The bytes of a sign that is cut off are not those of the next name.
	checkNoGet(t, "\x02\xe2\x82\x01\xac\x00\x00", 4, 1)
}

// TestWrongNumbers has them in every place of a number.
func TestWrongNumbers(t *testing.T) {
	for _, s := range []string{
		"\x80\x80\x80\x80\x10",     // 2^32
		"\xff\xff\xff\xff\x7f",     // 2^35 - 1
		"\x80\x80\x80\x80\x80\x00", // 0, in 6 bytes
		"\xff\xff\xff\xff\xff",
	} {
		for _, lead := range []string{"", "\x00", "\x01a", "\x00\x00\x00", "\x01a\x01b\x00", "\x00\x00\x01\x70\x00", "\x00\x00\x01\x70\x01", "\x00\x00\x01\x70\x01\x03", "\x00\x00\x02\x00", "\x00\x00\x02\x01", "\x00\x00\x02\x01\x83\x00"} {
			checkNoGet(t, lead+s, 3, len(lead))
			checkNoGet(t, lead+s+"\x00\x00\x00", 3, len(lead))
		}
	}
}

// TestLongerNumbers has numbers with more bytes than they need.
func TestLongerNumbers(t *testing.T) {
	checkGet(t, "\x83\x80\x80\x80\x00env\x81\x00f\x00\x85\x80\x80\x80\x00", api.Import{Module: "env", Name: "f", Type: 5}, 17)
	checkGet(t, "\x80\x00\x80\x80\x00\x01\x70\x01\x83\x00\x84\x80\x80\x00", api.Import{Kind: 1, Limits: api.Limits{Min: 3, Max: 4, Bound: true}}, 14)
}

// TestEveryByteChanged changes the bytes of imports, one at a time, to every value.
func TestEveryByteChanged(t *testing.T) {
	for _, good := range []string{
		"\x03env\x01f\x00\x05\x00",
		"\x00\x02\xc3\xa9\x00\xff\xff\xff\xff\x0f",
		"\x01a\x01b\x01\x70\x00\x03\x04",
		"\x01a\x01b\x01\x70\x01\x83\x00\x04",
		"\x01a\x01b\x02\x00\x03\x04",
		"\x01a\x01b\x02\x01\x03\x84\x00",
		"\x01a\x01b\x03\x7f\x00\x00",
		"\x01a\x01b\x03\x7e\x01",
	} {
		for at := range len(good) {
			for x := range 256 {
				b := []byte(good)
				b[at] = byte(x)
				checkGetModel(t, string(b))
				checkGetAllModel(t, "\x01"+string(b))
				checkGetAllModel(t, "\x02"+string(b)+good)
			}
		}
	}
}

// TestAllShortImports tries the strings of the bytes that mean something, alone and behind two names.
func TestAllShortImports(t *testing.T) {
	alphabet := "\x00\x01\x02\x03\x04\x70\x7d\x7f\x80\xff"
	for n := range 5 {
		words(alphabet, n, func(s string) {
			checkGetModel(t, s)
			checkGetModel(t, "\x00\x01a"+s)
			checkGetAllModel(t, s)
			checkGetAllModel(t, "\x01\x00\x01a"+s)
		})
	}
}

func TestGetAllOfNone(t *testing.T) {
	checkGetAll(t, "\x00", nil)
	checkGetAll(t, "\x80\x80\x80\x80\x00", nil)
	checkNoGetAll(t, "\x00\x00", 14, 1)
	checkNoGetAll(t, "\x80\x00\x00\x00\x00\x00", 14, 2)
	checkNoGetAll(t, "", 2, 0)
	checkNoGetAll(t, "\x80", 2, 0)
}

func TestGetAllOfOne(t *testing.T) {
	for _, x := range samples() {
		checkGetAll(t, "\x01"+x.b, []api.Import{x.x})
		checkGetAll(t, "\x81\x80\x00"+x.b, []api.Import{x.x})
	}
}

func TestGetAllOfSeveral(t *testing.T) {
	var list []api.Import
	var all string
	for n, x := range samples() {
		list = append(list, x.x)
		all += x.b
		checkGetAll(t, string([]byte{byte(n + 1)})+all, list)
	}
	all = strings.Repeat(all, 6)
	list = slices.Repeat(list, 6)
	checkGetAll(t, modelUint(uint64(len(list)))+all, list)
}

// TestGetAllOfAnotherNumber has one that is larger or smaller than that of the imports that follow.
func TestGetAllOfAnotherNumber(t *testing.T) {
	three := "\x01a\x01b\x00\x05" + "\x01m\x00\x02\x00\x03" + "\x00\x01g\x03\x7f\x01"
	for n, at := range []int{1, 7, 13} {
		checkNoGetAll(t, string([]byte{byte(n)})+three, 14, at)
	}
	checkGetAllModel(t, "\x03"+three)
	for _, n := range []string{"\x04", "\x05", "\x7f"} {
		checkNoGetAll(t, n+three, 2, 19)
	}
	checkNoGetAll(t, "\x90\x4e"+three, 2, 20) // 10000
	checkNoGetAll(t, "\x91\x4e"+three, 29, 0)
}

// TestGetAllWithBytesBehind has a byte of every value, and several, behind the last import.
func TestGetAllWithBytesBehind(t *testing.T) {
	for _, x := range samples() {
		for more := range 256 {
			checkNoGetAll(t, "\x01"+x.b+string([]byte{byte(more)}), 14, 1+len(x.b))
		}
		checkNoGetAll(t, "\x01"+x.b+x.b, 14, 1+len(x.b))
		checkNoGetAll(t, "\x02"+x.b+x.b+"\x00\x00\x00", 14, 1+2*len(x.b))
	}
}

// TestGetAllCutOff cuts a list off at every place.
func TestGetAllCutOff(t *testing.T) {
	s := "\x85\x00" + "\x03env\x01f\x00\x05" + "\x01t\x00\x01\x70\x01\x83\x00\x04" + "\x00\x00\x02\x00\x03" + "\x01g\x02ab\x03\x7e\x01" + "\x00\x00\x00\xff\x01"
	for n := range len(s) {
		checkGetAllModel(t, s[:n])
		if _, stop := modelGetAll([]byte(s[:n])); stop.Why != 2 {
			t.Errorf("%d bytes: %v", n, stop)
		}
	}
	checkGetAllModel(t, s)
}

// TestGetAllOfAWrongOne has an error in each of three imports, and two of them in one list.
func TestGetAllOfAWrongOne(t *testing.T) {
	good, bad := "\x01a\x01b\x00\x05", "\x01a\x01b\x04\x05"
	checkNoGetAll(t, "\x03"+bad+good+good, 43, 5)
	checkNoGetAll(t, "\x03"+good+bad+good, 43, 11)
	checkNoGetAll(t, "\x03"+good+good+bad, 43, 17)
	checkNoGetAll(t, "\x03"+good+good+bad+"\x00", 43, 17)
	checkNoGetAll(t, "\x02"+good+good+bad, 14, 13)
	checkNoGetAll(t, "\x03"+good+"\x01\xff"+bad, 4, 8)
	checkNoGetAll(t, "\x03"+bad+"\x01\xff", 43, 5)
	checkNoGetAll(t, "\x02"+good+"\x00\x00\x03\x7d\x02", 8, 10)
	checkNoGetAll(t, "\x02"+good+"\x00\x00\x03\x7f\x02", 10, 11)
	checkNoGetAll(t, "\x02"+good+"\x00\x00\x01\x71\x02", 7, 10)
	checkNoGetAll(t, "\x02"+good+"\xc9\x01", 13, 7)
	// The number counts ahead of all of them.
	checkNoGetAll(t, "\x91\x4e"+bad, 29, 0)
	checkNoGetAll(t, "\xff\xff\xff\xff\x0f"+bad, 29, 0)
	checkNoGetAll(t, "\xff\xff\xff\xff\x1f"+bad, 3, 0)
	checkNoGetAll(t, "\x80\x80\x80\x80\x80\x00"+bad, 3, 0)
}

// many are imports that differ from each other.
func many(n int) []api.Import {
	list := make([]api.Import, n)
	for at := range list {
		list[at] = api.Import{Module: "m", Name: modelUint(uint64(at % 128)), Type: uint32(at)}
	}
	return list
}

// TestMostImports has 10000 of them and one more.
func TestMostImports(t *testing.T) {
	list := many(10001)
	var b strings.Builder
	for _, x := range list[:10000] {
		b.WriteString(modelPut(x))
	}
	all, last := b.String(), modelPut(list[10000])
	checkPutAll(t, list[:9999], "\x8f\x4e"+all[:len(all)-len(modelPut(list[9999]))], 0)
	checkPutAll(t, list[:10000], "\x90\x4e"+all, 0)
	checkPutAll(t, list, "", 29)
	checkGetAll(t, "\x90\x4e"+all, list[:10000])
	checkNoGetAll(t, "\x90\x4e"+all+last, 14, 2+len(all))
	checkNoGetAll(t, "\x91\x4e"+all+last, 29, 0)
	checkNoGetAll(t, "\x91\x4e"+all, 29, 0)
	checkNoGetAll(t, "\x90\x4e"+all[:len(all)-1], 2, 2+len(all)-2)
	// Their number counts ahead of what is wrong with them.
	list[0].Kind = 4
	checkPutAll(t, list[:10000], "", 43)
	checkPutAll(t, list, "", 29)
	list[0].Kind, list[10000].Kind = 0, 4
	checkPutAll(t, list[:10000], "\x90\x4e"+all, 0)
	checkPutAll(t, list[1:], "", 43)
	checkPutAll(t, list, "", 29)
	checkPutAll(t, slices.Repeat(list, 3), "", 29)
}

func TestPutAll(t *testing.T) {
	checkPutAll(t, nil, "\x00", 0)
	checkPutAll(t, []api.Import{}, "\x00", 0)
	var list []api.Import
	var all string
	for n, x := range samples() {
		checkPutAll(t, []api.Import{x.x}, "\x01"+x.b, 0)
		list = append(list, x.x)
		all += x.b
		checkPutAll(t, list, string([]byte{byte(n + 1)})+all, 0)
	}
	for _, n := range []int{4, 5, 127 * 10} {
		checkPutAllModel(t, slices.Repeat(list, n))
	}
	checkPutAll(t, make([]api.Import, 127), "\x7f"+strings.Repeat("\x00", 4*127), 0)
	checkPutAll(t, make([]api.Import, 128), "\x80\x01"+strings.Repeat("\x00", 4*128), 0)
}

// TestPutAllOfWrongOnes has one at every place of a list, and two at all pairs of places.
func TestPutAllOfWrongOnes(t *testing.T) {
	for _, bad := range wrong() {
		checkPutAll(t, []api.Import{bad.x}, "", bad.e)
		for at := range 4 {
			list := []api.Import{plain(0), plain(1), plain(2), plain(3)}
			list[at] = bad.x
			checkPutAll(t, list, "", bad.e)
		}
		for _, other := range wrong() {
			for first := range 4 {
				for second := first + 1; second < 4; second++ {
					list := []api.Import{plain(0), plain(1), plain(2), plain(3)}
					list[first], list[second] = bad.x, other.x
					checkPutAll(t, list, "", bad.e)
				}
			}
		}
	}
}

// P10.3

// mixed has all kinds several times, one that there is not, names of one kind at another, and names that come twice.
func mixed() []api.Import {
	return []api.Import{
		{Module: "env", Name: "memory", Kind: 2, Limits: api.Limits{Min: 1}},
		{Module: "env", Name: "f"},
		{Module: "env", Name: "g", Type: 1},
		{Module: "env", Name: "table", Kind: 1},
		{Module: "env", Name: "g", Kind: 3, Global: api.GlobalType{T: 0x7f}},
		{Module: "GOT", Name: "g", Type: 2},
		{Module: "env", Name: "g", Type: 3},
		{Module: "f", Name: "env", Type: 4},
		{Module: "GOT", Name: "x", Kind: 200, Type: 7},
		{Module: "env", Name: "memory", Kind: 2, Limits: api.Limits{Min: 2}},
		{Module: "GOT", Name: "f", Kind: 3, Global: api.GlobalType{T: 0x7e}},
		{Module: "", Name: "h", Kind: 1},
		{Module: "h", Name: "", Kind: 2},
		{Module: "\xff", Name: "h", Kind: 3},
		{Module: "", Name: "", Type: 5},
	}
}

// pick are the imports at some indices.
func pick(list []api.Import, at ...int) []api.Import {
	var some []api.Import
	for _, i := range at {
		some = append(some, list[i])
	}
	return some
}

func TestOf(t *testing.T) {
	list := mixed()
	checkOf(t, list, 0, pick(list, 1, 2, 5, 6, 7, 14))
	checkOf(t, list, 1, pick(list, 3, 11))
	checkOf(t, list, 2, pick(list, 0, 9, 12))
	checkOf(t, list, 3, pick(list, 4, 10, 13))
	checkOf(t, list, 200, pick(list, 8))
	for kind := 4; kind < 256; kind++ {
		if kind != 200 {
			checkOf(t, list, byte(kind), nil)
		}
	}
	for kind := range 256 {
		checkOf(t, nil, byte(kind), nil)
		checkOf(t, []api.Import{}, byte(kind), nil)
		// A kind that no import has.
		for other := range byte(4) {
			if int(other) != kind {
				checkOf(t, []api.Import{plain(other), plain(other)}, byte(kind), nil)
			}
		}
		two := []api.Import{plain(byte(kind)), plain(byte(kind))}
		checkOf(t, two, byte(kind), two)
	}
	// Imports that come twice count twice.
	checkOf(t, slices.Repeat(list, 3), 1, slices.Repeat(pick(list, 3, 11), 3))
	checkOf(t, many(20000), 0, many(20000))
}

func TestPlace(t *testing.T) {
	list := mixed()
	checkPlace(t, list, 0, "env", "f", 0)
	checkPlace(t, list, 0, "env", "g", 1) // the first of two
	checkPlace(t, list, 0, "GOT", "g", 2)
	checkPlace(t, list, 0, "f", "env", 4) // both names exchanged
	checkPlace(t, list, 0, "", "", 5)
	checkPlace(t, list, 1, "env", "table", 0)
	checkPlace(t, list, 1, "", "h", 1)
	checkPlace(t, list, 2, "env", "memory", 0)
	checkPlace(t, list, 2, "h", "", 2)
	checkPlace(t, list, 3, "env", "g", 0)
	checkPlace(t, list, 3, "GOT", "f", 1)
	checkPlace(t, list, 3, "\xff", "h", 2)
	checkPlace(t, list, 200, "GOT", "x", 0)
	// Names of an import of another kind.
	checkPlace(t, list, 0, "env", "memory", -1)
	checkPlace(t, list, 1, "env", "memory", -1)
	checkPlace(t, list, 3, "env", "f", -1)
	checkPlace(t, list, 2, "env", "table", -1)
	checkPlace(t, list, 0, "GOT", "f", -1)
	checkPlace(t, list, 0, "GOT", "x", -1)
	checkPlace(t, list, 4, "env", "f", -1)
	// A Module alone, and a Name alone.
	checkPlace(t, list, 0, "env", "x", -1)
	checkPlace(t, list, 0, "env", "", -1)
	checkPlace(t, list, 0, "x", "f", -1)
	checkPlace(t, list, 0, "", "f", -1)
	checkPlace(t, list, 3, "GOT", "g", -1)
	// Exchanged.
	checkPlace(t, list, 0, "g", "env", -1)
	checkPlace(t, list, 1, "h", "", -1)
	checkPlace(t, list, 2, "memory", "env", -1)
	// Names that are the same put together, or but for a sign.
	checkPlace(t, list, 0, "en", "vf", -1)
	checkPlace(t, list, 0, "envf", "", -1)
	checkPlace(t, list, 0, "Env", "f", -1)
	checkPlace(t, list, 0, "env", "F", -1)
	checkPlace(t, list, 0, "env ", "f", -1)
	checkPlace(t, list, 0, "env", "ff", -1)
	for kind := range 256 {
		checkPlace(t, nil, byte(kind), "", "", -1)
		checkPlace(t, []api.Import{}, byte(kind), "env", "f", -1)
		checkPlace(t, []api.Import{plain(byte(kind) + 1), plain(byte(kind))}, byte(kind), "", "", 0)
	}
	checkPlace(t, many(20000), 0, "m", "\x7f", 127)
	// The other fields do not count.
	checkPlace(t, []api.Import{{Module: "a", Name: "a", Kind: 1}, {Module: "a", Name: "b", Type: 9}, {Module: "a", Name: "a", Limits: api.Limits{Min: 1}}}, 0, "a", "a", 1)
}

// TestFindEverything asks for all kinds and names in all lists of three.
func TestFindEverything(t *testing.T) {
	names := []string{"", "a", "b"}
	words("\x00\x01\x02\x03\x04\x05\x06\x07\x08", 3, func(w string) {
		var list []api.Import
		for at := range 3 {
			list = append(list, api.Import{Kind: w[at] % 2, Module: names[w[at]%3], Name: names[w[at]/4], Type: uint32(at)})
		}
		for kind := range byte(3) {
			checkOf(t, list, kind, modelOf(list, kind))
			for _, module := range names {
				for _, name := range names {
					checkPlace(t, list, kind, module, name, modelPlace(list, kind, module, name))
				}
			}
		}
	})
}

// P10.4

// anyImport is one that may be, by chance.
func anyImport(next func(n int) int) api.Import {
	names := []string{"", "a", "env", "GOT.mem", "\u20ac\x00", strings.Repeat("n", 127), strings.Repeat("n", 128), strings.Repeat("n", 200)}
	numbers := []uint32{0, 1, 127, 128, 16383, 16384, 65536, 1<<31 - 1, 1 << 31, most}
	x := api.Import{Module: names[next(len(names))], Name: names[next(len(names))], Kind: byte(next(4))}
	switch x.Kind {
	case 0:
		x.Type = numbers[next(len(numbers))]
	case 1, 2:
		x.Limits = api.Limits{Min: numbers[next(len(numbers))], Bound: next(2) == 0}
		if x.Limits.Bound {
			x.Limits.Max = numbers[next(len(numbers))]
		}
	case 3:
		x.Global = api.GlobalType{T: byte(0x7e + next(2)), Mut: next(2) == 0}
	}
	return x
}

// chance returns numbers below others, the same ones each time.
func chance(seed uint32) func(n int) int {
	return func(n int) int {
		seed = seed*1664525 + 1013904223
		return int(seed>>8) % n
	}
}

// TestGetInvertsPut has imports and lists by chance, and the samples.
func TestGetInvertsPut(t *testing.T) {
	for _, x := range samples() {
		checkComesBack(t, []api.Import{x.x})
	}
	next := chance(3)
	for range 3000 {
		list := make([]api.Import, next(8))
		for at := range list {
			list[at] = anyImport(next)
		}
		checkComesBack(t, list)
	}
	checkComesBack(t, nil)
	checkComesBack(t, many(10000))
}

// checkComesBack checks that imports and their list are read back, and written as they were.
func checkComesBack(t *testing.T, list []api.Import) {
	t.Helper()
	for _, x := range list {
		b, e := imports.Put(x)
		if e != 0 {
			t.Errorf("Put(%+v): %d", told(x), e)
		}
		s := scan.Over(b)
		if got, stop := try(s); got != x || stop != (abort.Stop{}) || !s.Done() {
			t.Errorf("Get: %+v, %v, At %d, want %+v", told(got), stop, s.At(), told(x))
		}
	}
	b, e := imports.PutAll(list)
	got, stop := tryAll(scan.Over(b))
	if e != 0 || !slices.Equal(got, list) || stop != (abort.Stop{}) {
		t.Errorf("GetAll: %d imports, %v, want %d", len(got), stop, len(list))
	}
	if again, e := imports.PutAll(got); e != 0 || !bytes.Equal(again, b) {
		t.Errorf("PutAll of what came back is not the same")
	}
}

// TestWhatIsReadMayBePut: what Get returns is right, also Limits whose Max is below their Min.
func TestWhatIsReadMayBePut(t *testing.T) {
	words("\x00\x01\x02\x03\x70\x7e\x7f\x80", 4, func(w string) {
		for _, lead := range []string{"\x00\x00", "\x01a\x01b"} {
			got, stop := try(scan.Over([]byte(lead + w)))
			if stop.Why == 0 {
				checkPutModel(t, got)
				checkRight(t, got, 0)
			}
		}
	})
}

// P1

// TestAnything reads, writes and finds what comes by chance.
func TestAnything(t *testing.T) {
	next := chance(7)
	for range 6000 {
		b := make([]byte, next(20))
		for at := range b {
			b[at] = byte(next(256))
			if next(3) > 0 {
				b[at] = byte(next(4))
			}
		}
		checkGetModel(t, string(b))
		checkGetAllModel(t, string(b))

		list := make([]api.Import, next(5))
		for at := range list {
			list[at] = anyImport(next)
			switch next(12) {
			case 0:
				list[at].Kind = byte(next(256))
			case 1:
				list[at].Type ^= uint32(next(3))
			case 2:
				list[at].Limits.Max ^= uint32(next(3))
			case 3:
				list[at].Limits.Bound = !list[at].Limits.Bound
			case 4:
				list[at].Global.T = byte(next(256))
			case 5:
				list[at].Global.Mut = !list[at].Global.Mut
			case 6:
				list[at].Name = string(b)
			case 7:
				list[at].Module += list[at].Name
			}
			checkPutModel(t, list[at])
		}
		checkPutAllModel(t, list)
		kind, x := byte(next(5)), anyImport(next)
		checkOf(t, list, kind, modelOf(list, kind))
		checkPlace(t, list, kind, x.Module, x.Name, modelPlace(list, kind, x.Module, x.Name))
	}
}

func TestManyBytes(t *testing.T) {
	for x := range 256 {
		b := strings.Repeat(string([]byte{byte(x)}), 1000)
		checkGetModel(t, b)
		checkGetAllModel(t, b)
	}
	long := strings.Repeat("n", 1<<20)
	checkRight(t, api.Import{Module: long, Name: long}, 13)
	checkPlace(t, mixed(), 0, long, long, -1)
}

// P2

// TestArgumentsStay looks at bytes and lists, and at what is behind them that there is room for.
func TestArgumentsStay(t *testing.T) {
	room := []byte("\x03\x03env\x01f\x00\x05\x01t\x00\x01\x70\x01\x03\x04\x00\x00\x03\x7f\x01\x00\x00")
	whole := slices.Clone(room)
	for n := range len(room) + 1 {
		tryAll(scan.Over(room[:n]))
		try(scan.Over(room[:n]))
		try(scan.Over(room[min(n, 1):n]))
	}
	if !bytes.Equal(room, whole) {
		t.Errorf("the bytes were % x and are % x", whole, room)
	}

	list := mixed()
	for n := range len(list) + 1 {
		imports.PutAll(list[:n])
		imports.PutAll(list[1:max(n, 1)])
		for kind := range byte(5) {
			imports.Of(list[:n], kind)
			imports.Count(list[:n], kind)
			imports.Place(list[:n], kind, "env", "g")
			imports.Place(list[:n], kind, "none", "g")
		}
	}
	if !slices.Equal(list, mixed()) {
		t.Errorf("the list is %+v", list)
	}
}

// spoil overwrites a list, with all that it has room for.
func spoil[T any](list []T, with T) {
	list = list[:cap(list)]
	for at := range list {
		list[at] = with
	}
}

var other = api.Import{Module: "other", Name: "other", Kind: 9, Type: 9, Limits: api.Limits{Min: 9, Max: 9, Bound: true}, Global: api.GlobalType{T: 9, Mut: true}}

// TestArgumentsAreNotKept spoils what was handed in: the results stay.
func TestArgumentsAreNotKept(t *testing.T) {
	for _, x := range samples() {
		b := []byte("\x01" + x.b)
		one, _ := try(scan.Over(b[1:]))
		all, _ := tryAll(scan.Over(b))
		spoil(b, 0xee)
		if one != x.x || !slices.Equal(all, []api.Import{x.x}) {
			t.Errorf("Get: %+v, GetAll: %+v, want %+v", told(one), all, told(x.x))
		}
		list := []api.Import{x.x}
		put, _ := imports.PutAll(list)
		of := imports.Of(list, x.x.Kind)
		spoil(list, other)
		if string(put) != "\x01"+x.b || !slices.Equal(of, []api.Import{x.x}) {
			t.Errorf("PutAll: % x, Of: %+v, want %+v", short(put), of, told(x.x))
		}
	}
	// A scanner goes on with the bytes that it was made of.
	b := []byte("\x03env\x01f\x00\x05\x00\x00\x00\x06")
	s := scan.Over(b)
	try(s)
	spoil(b, 0xee)
	if got, stop := try(s); got != (api.Import{Type: 6}) || stop != (abort.Stop{}) {
		t.Errorf("Get: %+v, %v", got, stop)
	}
}

// TestResultsAreNew spoils results: neither the arguments nor the results of other calls change.
func TestResultsAreNew(t *testing.T) {
	for _, x := range samples() {
		for range 2 {
			b, _ := imports.Put(x.x)
			if string(b) != x.b {
				t.Errorf("Put: % x, want % x", short(b), short(x.b))
			}
			spoil(b, 0xee)
			b, _ = imports.PutAll([]api.Import{x.x})
			if string(b) != "\x01"+x.b {
				t.Errorf("PutAll: % x, want % x", short(b), short(x.b))
			}
			spoil(b, 0xee)
		}
	}
	list := mixed()
	room := append(mixed(), mixed()...)
	for kind := range byte(5) {
		for range 2 {
			of := imports.Of(list, kind)
			if !slices.Equal(of, modelOf(mixed(), kind)) {
				t.Errorf("Of %d: %+v", kind, of)
			}
			spoil(of, other)
			spoil(imports.Of(room[:len(list)], kind), other)
		}
	}
	all := make([]api.Import, 3)
	spoil(imports.Of(all, 0), other)
	if !slices.Equal(list, mixed()) || !slices.Equal(room, append(mixed(), mixed()...)) || !slices.Equal(all, make([]api.Import, 3)) {
		t.Errorf("the lists are %+v, %+v and %+v", list, room, all)
	}
	b := []byte("\x02\x00\x00\x00\x05\x00\x00\x00\x06")
	first, _ := tryAll(scan.Over(b))
	second, _ := tryAll(scan.Over(b))
	spoil(first, other)
	if !slices.Equal(second, []api.Import{{Type: 5}, {Type: 6}}) {
		t.Errorf("GetAll: %+v", second)
	}
}

// TestCallsDoNotMatter calls everything with errors and without, in between.
func TestCallsDoNotMatter(t *testing.T) {
	for _, x := range samples() {
		for _, bad := range wrong() {
			imports.Right(bad.x)
			imports.Put(bad.x)
			imports.PutAll([]api.Import{x.x, bad.x})
			try(scan.Over([]byte("\x00\x00\x04")))
			tryAll(scan.Over([]byte("\x02" + x.b + "\x00")))
			imports.Of([]api.Import{bad.x}, bad.x.Kind)
			imports.Count([]api.Import{bad.x}, bad.x.Kind)
			imports.Place([]api.Import{bad.x}, bad.x.Kind, bad.x.Module, bad.x.Name)
		}
		checkPut(t, x.x, x.b)
		checkGet(t, x.b, x.x, len(x.b))
		checkGetAll(t, "\x01"+x.b, []api.Import{x.x})
		checkPutAll(t, []api.Import{x.x}, "\x01"+x.b, 0)
		checkOf(t, []api.Import{x.x}, x.x.Kind, []api.Import{x.x})
		checkPlace(t, []api.Import{x.x}, x.x.Kind, x.x.Module, x.x.Name, 0)
	}
}
