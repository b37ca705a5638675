package trial

import (
	"unicode/utf8"

	"creel/abort"
	"creel/api"
)

// Model reads what layer 5 reads, but is written from the chapters with numbers of its own and asks no layer: what it reads, the scanner should.
type Model struct {
	B    string
	At   int
	Stop abort.Stop // the first error, behind which nothing is read
}

// NewModel is one that is before some bytes.
func NewModel(b string) *Model { return &Model{B: b} }

// Fail is an error, if it is one, and the first.
func (m *Model) Fail(why api.Errno, at int) {
	if !m.Failed() && why != 0 {
		m.Stop = abort.Stop{Why: why, At: at}
	}
}

// Failed tells whether there was an error.
func (m *Model) Failed() bool { return m.Stop.Why != 0 }

// Bytes are the next n; ErrShort.
func (m *Model) Bytes(n int) string {
	if m.Failed() {
		return ""
	}
	if n > len(m.B)-m.At {
		m.Fail(2, m.At)
		return ""
	}
	m.At += n
	return m.B[m.At-n : m.At]
}

// Byte is the next one; wrong tells the error that it is, if any.
func (m *Model) Byte(wrong func(x byte) api.Errno) byte {
	at := m.At
	s := m.Bytes(1)
	if s == "" {
		return 0
	}
	m.Fail(wrong(s[0]), at)
	return s[0]
}

// UpTo tells an error for a byte above a limit.
func UpTo(limit byte, why api.Errno) func(x byte) api.Errno {
	return func(x byte) api.Errno {
		if x > limit {
			return why
		}
		return 0
	}
}

// Only tells an error for every byte but one.
func Only(right byte, why api.Errno) func(x byte) api.Errno {
	return func(x byte) api.Errno {
		if x != right {
			return why
		}
		return 0
	}
}

// Index is a varint of 32 bits.
func (m *Model) Index() uint32 { return m.IndexUpTo(0xffffffff, 0) }

// IndexUpTo is a varint of 32 bits that is not above a limit.
func (m *Model) IndexUpTo(limit uint32, why api.Errno) uint32 {
	from := m.At
	v := m.Varint(32, false)
	if v > uint64(limit) {
		m.Fail(why, from)
	}
	return uint32(v)
}

// Varint is a number of 32 or 64 bits, which are what it returns: the bits that are too many have to be zeros, or, with a sign, what the last that counts is.
func (m *Model) Varint(bits int, sign bool) uint64 {
	from := m.At
	list := m.groups(bits)
	if m.Failed() {
		return 0
	}
	rest := byte(0) // what the bits that are too many are
	if sign {
		rest = list[min(bits, len(list))-1]
	}
	for len(list) < bits {
		list = append(list, rest)
	}
	v := uint64(0)
	for i, bit := range list {
		if i >= bits && bit != rest {
			m.Fail(3, from)
		}
		if i < bits {
			v |= uint64(bit) << i
		}
	}
	return v
}

// groups are the bits of a varint, seven of each byte: no more bytes than it takes.
func (m *Model) groups(bits int) []byte {
	from := m.At
	var list []byte
	for more := true; more && !m.Failed(); {
		if len(list) >= bits {
			m.Fail(3, from)
			break
		}
		if m.At == len(m.B) {
			m.Fail(2, from)
			break
		}
		b := m.B[m.At]
		m.At++
		more = b >= 128
		for i := range 7 {
			list = append(list, b>>i&1)
		}
	}
	return list
}

// Count is how many elements of a list follow.
func (m *Model) Count() int { return int(m.IndexUpTo(10000, 29)) }

// Part is a number of bytes, and what is read in these, which ends where they end.
func (m *Model) Part(read func(part *Model)) {
	n := m.Index()
	if int64(n) > int64(len(m.B)-m.At) {
		m.Fail(2, m.At)
	}
	if m.Failed() {
		return
	}
	part := &Model{B: m.B[:m.At+int(n)], At: m.At}
	read(part)
	m.At += int(n)
	m.Stop = part.Stop
}

// Name is a length and so many bytes of UTF-8.
func (m *Model) Name() string {
	n := m.IndexUpTo(200, 13)
	at := m.At
	s := m.Bytes(int(n))
	if !utf8.ValidString(s) {
		m.Fail(4, at)
	}
	return s
}

// End is where no bytes are left.
func (m *Model) End() {
	if m.At != len(m.B) {
		m.Fail(14, m.At)
	}
}

// Limits are those of a table or a memory.
func (m *Model) Limits() api.Limits {
	var l api.Limits
	l.Bound = m.Byte(UpTo(1, 10)) == 1
	l.Min = m.Index()
	if l.Bound {
		l.Max = m.Index()
	}
	return l
}

// TypeError is that of a byte as the type of a value.
func TypeError(t byte) api.Errno {
	switch t {
	case 0x7f, 0x7e:
		return 0
	case 0x7d, 0x7c:
		return 8
	}
	return 7
}

// NameError is that of a name.
func NameError(s string) api.Errno {
	switch {
	case len(s) > 200:
		return 13
	case !utf8.ValidString(s):
		return 4
	}
	return 0
}

// GlobalType is that of a global.
func (m *Model) GlobalType() api.GlobalType {
	var g api.GlobalType
	g.T = m.Byte(TypeError)
	g.Mut = m.Byte(UpTo(1, 10)) == 1
	return g
}

// List is a Count, so many elements, and the end.
func List[E any](m *Model, one func(m *Model) E) []E {
	var list []E
	for range m.Count() {
		if m.Failed() {
			break
		}
		list = append(list, one(m))
	}
	m.End()
	if m.Failed() {
		return nil
	}
	return list
}

// Uint are the bytes of the shortest varint of a number that is not negative.
func Uint[N int | uint32 | uint64](n N) string {
	if n < 128 {
		return string([]byte{byte(n)})
	}
	return string([]byte{byte(n%128 + 128)}) + Uint(n/128)
}

// Int are the bytes of the shortest varint of a number with a sign: one byte has room for -64 to 63.
func Int(n int64) string {
	low := byte(uint64(n) % 128)
	if -64 <= n && n <= 63 {
		return string([]byte{low})
	}
	return string([]byte{low + 128}) + Int((n-int64(low))/128)
}

// Sized are the bytes of a string behind their number.
func Sized(s string) string { return Uint(len(s)) + s }
