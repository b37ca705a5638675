package trial

import (
	"math"
	"math/bits"
	"slices"

	"creel/api"
)

// HeadBytes are those of the beginning of a segment with an offset that may be.
func HeadBytes(offset api.Instr) string { return "\x00" + ConstBytes(offset) }

// Head is the offset of the beginning of a segment.
func (m *Model) Head() api.Instr {
	m.Byte(Only(0, 10))
	return m.Const()
}

// BrokenHeads have what is no beginning of a segment.
func BrokenHeads() []Broken {
	return slices.Concat(BrokenBytes(Only(0, 10), ""), BrokenConsts("\x00"))
}

// Segments is a layer of segments, of which one is made of an offset and so many things.
type Segments[E any] struct {
	Layer Layer[E]
	With  func(offset api.Instr, n int) E
	Most  int       // so many things there may be
	Many  api.Errno // there are more
}

// TestNumbers has nothing, one thing, as many as there may be and more, with each form of offset that may be and with others. That there are too many counts first.
func (s Segments[E]) TestNumbers(t T) {
	t.Helper()
	for _, n := range []int{0, 1, 2, 127, 128, s.Most - 1, s.Most, s.Most + 1, 2 * s.Most} {
		judge := func(offset api.Instr, e api.Errno) {
			t.Helper()
			if n > s.Most {
				e = s.Many
			}
			s.Layer.Judges(t, s.With(offset, n), e)
		}
		for _, x := range Consts() {
			judge(x.E, 0)
		}
		for _, x := range WrongConsts() {
			judge(x.E, x.Why)
		}
	}
}

// TestOpcodes has all opcodes for the offset, with as little behind them as may be and with more.
func (s Segments[E]) TestOpcodes(t T) {
	t.Helper()
	for op := range 256 {
		i := Plain(byte(op))
		for _, n := range []int{0, 1, 2, s.Most, s.Most + 1} {
			s.Layer.AgreesOn(t, s.With(i, n))
		}
		for _, x := range []api.Instr{{Op: i.Op, A: 1}, {Op: i.Op, A: i.A, B: 1}, {Op: i.Op, A: i.A, L: []uint32{0}}} {
			s.Layer.AgreesOn(t, s.With(x, 1))
		}
	}
	s.Layer.Judges(t, s.With(api.Instr{Op: 0x23}, 1), 0)
	s.Layer.Judges(t, s.With(api.Instr{Op: 0x41}, 1), 0)
	s.Layer.Judges(t, s.With(api.Instr{Op: 0x42}, 1), 0) // nobody asks there for its type
	s.Layer.Judges(t, s.With(api.Instr{Op: 0x24}, 1), 12)
	s.Layer.Judges(t, s.With(api.Instr{Op: 0x0b}, 1), 12)
	s.Layer.Judges(t, s.With(api.Instr{Op: 0x43}, 1), 8)
	s.Layer.Judges(t, s.With(api.Instr{Op: 0x25}, 1), 9)
}

// TestFlags has every first byte, with the rest of a segment and without.
func (s Segments[E]) TestFlags(t T) {
	t.Helper()
	good := s.Layer.Samples()[0]
	for b := range 256 {
		x := string([]byte{byte(b)}) + good.B[1:]
		if b == 0 {
			s.Layer.One().Takes(t, x, good.E, len(x))
			s.Layer.One().Refuses(t, x[:1], 2, 1)
			continue
		}
		s.Layer.One().Refuses(t, x, 10, 0)
		s.Layer.One().Refuses(t, x[:1], 10, 0)
	}
}

// Segment is so many things from an offset on.
type Segment struct {
	Offset api.Instr
	N      int
}

// Starts are where segments begin, or the first error: what the chapters of both kinds of segments say.
func Starts(list []Segment, taken []api.Value, size uint64) ([]uint32, api.Errno) {
	var starts []uint32
	for _, x := range list {
		v, e := ConstValue(x.Offset, taken)
		switch {
		case e != 0:
			return nil, e
		case v.T != 0x7f:
			return nil, 7
		case beyond(v.N, x.N, size):
			return nil, 45
		}
		starts = append(starts, uint32(v.N))
	}
	return starts, 0
}

// beyond tells whether not all of n indices are below a size, or, if there are none, whether the first one would be above it.
func beyond(first uint64, n int, size uint64) bool {
	if n == 0 {
		return first > size
	}
	last, carry := bits.Add64(first, uint64(n-1), 0)
	return carry == 1 || last >= size
}

// Placer checks where segments begin in something of such a size, or the error and that nothing goes anywhere.
type Placer func(list []Segment, taken []api.Value, size uint64, starts []uint32, e api.Errno)

// Agrees checks that it is what the model says.
func (p Placer) Agrees(list []Segment, taken []api.Value, size uint64) {
	starts, e := Starts(list, taken, size)
	p(list, taken, size, starts, e)
}

// fixed is a segment that begins at a constant.
func fixed(start uint64, n int) Segment { return Segment{I32(start), n} }

// TestNone has no segments, and segments of nothing.
func (p Placer) TestNone() {
	for _, taken := range [][]api.Value{nil, {}, {{T: 0x7e, N: 5}}} {
		for _, size := range []uint64{0, 1, 1 << 31, math.MaxUint32} {
			p(nil, taken, size, nil, 0)
			p([]Segment{}, taken, size, nil, 0)
			p([]Segment{fixed(0, 0)}, taken, size, []uint32{0}, 0)
			p([]Segment{fixed(0, 0), fixed(0, 0)}, taken, size, []uint32{0, 0}, 0)
			p([]Segment{fixed(size, 0)}, taken, size, []uint32{uint32(size)}, 0)
			if size < math.MaxUint32 {
				p([]Segment{fixed(size+1, 0)}, taken, size, nil, 45)
				p([]Segment{fixed(0, 0), fixed(size+1, 0)}, taken, size, nil, 45)
			}
		}
	}
}

// TestEdges has segments at the beginning, at the end, and beyond it.
func (p Placer) TestEdges() {
	for _, size := range []uint64{1, 2, 3, 10, 128, 10001, 1 << 20, 1 << 31, math.MaxUint32} {
		for _, n := range []int{1, 2, 3, 9, 10, 11, 128, 10000, 10001} {
			if uint64(n) > size {
				p([]Segment{fixed(0, n)}, nil, size, nil, 45)
				p([]Segment{fixed(size, n)}, nil, size, nil, 45)
				continue
			}
			end := size - uint64(n)
			p([]Segment{fixed(0, n)}, nil, size, []uint32{0}, 0)
			p([]Segment{fixed(end, n)}, nil, size, []uint32{uint32(end)}, 0)
			p([]Segment{fixed(end, n), fixed(0, n)}, nil, size, []uint32{uint32(end), 0}, 0)
			p([]Segment{fixed(end+1, n)}, nil, size, nil, 45)
			p([]Segment{fixed(size, n)}, nil, size, nil, 45)
			p([]Segment{fixed(math.MaxUint32, n)}, nil, size, nil, 45)
			p([]Segment{fixed(0, n), fixed(end+1, n), fixed(0, n)}, nil, size, nil, 45)
		}
		p([]Segment{fixed(size, 1)}, nil, size, nil, 45)
	}
	for _, start := range []uint64{0, 1, 1 << 31, math.MaxUint32} {
		p([]Segment{fixed(start, 1)}, nil, 0, nil, 45)
	}
	// One goes over another, and it is told in the order of the list.
	p([]Segment{fixed(3, 4), fixed(0, 5), fixed(4, 1), fixed(4, 0)}, nil, 7, []uint32{3, 0, 4, 4}, 0)
	p([]Segment{fixed(3, 4), fixed(0, 5), fixed(4, 1), fixed(4, 0)}, nil, 6, nil, 45)
}

// TestSums has indices of which the sum has more than 32 bits.
func (p Placer) TestSums() {
	const most = math.MaxUint32
	p([]Segment{fixed(most, 1)}, nil, most, nil, 45)
	p([]Segment{fixed(most, 2)}, nil, most, nil, 45)
	p([]Segment{fixed(most, 0)}, nil, most, []uint32{most}, 0)
	p([]Segment{fixed(most-1, 1)}, nil, most, []uint32{most - 1}, 0)
	p([]Segment{fixed(most-1, 2)}, nil, most, nil, 45)
	p([]Segment{fixed(most-9999, 10000)}, nil, most, nil, 45)
	p([]Segment{fixed(most-10000, 10000)}, nil, most, []uint32{most - 10000}, 0)
	for _, size := range []uint64{0, 1, 5, 9, 10, 10000, 1 << 20, 1 << 31} {
		for _, n := range []int{1, 2, 5, 6, 10, 10000} {
			p([]Segment{fixed(most, n)}, nil, size, nil, 45)
			p([]Segment{fixed(most-4, n)}, nil, size, nil, 45)
			p([]Segment{fixed(1<<32-uint64(n), n)}, nil, size, nil, 45)
		}
	}
}

// TestLargeSizes has sizes that have more than 32 bits: what begins at the last index of 32 bits may go on behind it. What has indices of 32 bits only has no such sizes.
func (p Placer) TestLargeSizes() {
	const most = math.MaxUint32
	taken := []api.Value{{T: 0x7f, N: most}, {T: 0x7e, N: 0}}
	for _, offset := range []api.Instr{I32(most), Imported(0)} {
		for _, size := range []uint64{1 << 32, 1<<32 + 1, 1<<32 + 9, 1 << 33, 1 << 63, math.MaxUint64} {
			p([]Segment{{offset, 0}}, taken, size, []uint32{most}, 0)
			p([]Segment{{offset, 1}}, taken, size, []uint32{most}, 0)
			p([]Segment{fixed(0, 10000), {offset, 1}, fixed(0, 0)}, taken, size, []uint32{0, most, 0}, 0)
			p([]Segment{{I64(0), 0}}, taken, size, nil, 7)
			p([]Segment{{offset, 1}, {Imported(1), 0}}, taken, size, nil, 7)
			p([]Segment{{offset, 1}, {Imported(2), 0}}, taken, size, nil, 24)
		}
		p([]Segment{{offset, 1}}, taken, most, nil, 45)
		p([]Segment{{offset, 2}}, taken, 1<<32, nil, 45)
		p([]Segment{{offset, 2}}, taken, 1<<32+1, []uint32{most}, 0)
		p([]Segment{{offset, 3}}, taken, 1<<32+1, nil, 45)
		p([]Segment{{offset, 10000}}, taken, 1<<32+9998, nil, 45)
		p([]Segment{{offset, 10000}}, taken, 1<<32+9999, []uint32{most}, 0)
		p([]Segment{{offset, 10000}}, taken, math.MaxUint64, []uint32{most}, 0)
	}
	p([]Segment{fixed(1<<32-10000, 10000)}, nil, 1<<32, []uint32{1<<32 - 10000}, 0)
	p([]Segment{fixed(1<<32-9999, 10000)}, nil, 1<<32, nil, 45)
}

// TestTaken has offsets that get the value of an imported global: of the first one, of the last one, and of one that is not there.
func (p Placer) TestTaken() {
	taken := []api.Value{{T: 0x7f, N: 3}, {T: 0x7e, N: 4}, {T: 0x7f, N: 5}, {T: 0x7f, N: math.MaxUint32}, {T: 0x7f, N: 8}}
	get := func(n uint64, k int) Segment { return Segment{Imported(n), k} }
	p([]Segment{get(0, 2)}, taken, 10, []uint32{3}, 0)
	p([]Segment{get(2, 2)}, taken, 10, []uint32{5}, 0)
	p([]Segment{get(4, 2)}, taken, 10, []uint32{8}, 0)
	p([]Segment{get(4, 2), get(0, 1), fixed(7, 1), get(2, 0), get(4, 1)}, taken, 10, []uint32{8, 3, 7, 5, 8}, 0)
	p([]Segment{get(0, 2)}, taken[:1], 5, []uint32{3}, 0)
	p([]Segment{get(0, 2)}, taken[:1], 4, nil, 45)
	p([]Segment{get(4, 2)}, taken, 9, nil, 45)
	p([]Segment{get(3, 0)}, taken, math.MaxUint32, []uint32{math.MaxUint32}, 0)
	p([]Segment{get(3, 1)}, taken, math.MaxUint32, nil, 45)
	p([]Segment{get(3, 0)}, taken, math.MaxUint32-1, nil, 45)
	for _, n := range []uint64{5, 6, 128, 1 << 31, math.MaxUint32} {
		p([]Segment{get(n, 2)}, taken, 10, nil, 24)
		p([]Segment{get(n, 0)}, taken, 0, nil, 24)
		p([]Segment{get(0, 2), get(n, 2)}, taken, 10, nil, 24)
	}
	p([]Segment{get(4, 1)}, taken[:4], 10, nil, 24) // what is behind a list is not there
	p([]Segment{get(0, 0)}, nil, 10, nil, 24)
	p([]Segment{get(0, 0)}, []api.Value{}, 10, nil, 24)
}

// TestTypes has values of all types: one that is no i32 counts ahead of where it would be.
func (p Placer) TestTypes() {
	for b := range 256 {
		taken := []api.Value{{T: 0x7f}, {T: byte(b), N: 5}}
		one := []Segment{{Imported(1), 2}}
		two := []Segment{fixed(0, 1), {Imported(1), 0}, fixed(0, 1)}
		if b == 0x7f {
			p(one, taken, 7, []uint32{5}, 0)
			p(one, taken, 6, nil, 45)
			p(two, taken, 5, []uint32{0, 5, 0}, 0)
			continue
		}
		for _, size := range []uint64{0, 1, 6, 7, math.MaxUint32} {
			p(one, taken, size, nil, 7)
		}
		p(two, taken, 7, nil, 7)
	}
	for _, n := range []uint64{0, 1, 5, 1 << 31, 1 << 32, math.MaxUint64} {
		p([]Segment{{I64(n), 0}}, nil, 10, nil, 7)
		p([]Segment{{I64(n), 1}}, nil, 10, nil, 7)
		p([]Segment{fixed(0, 1), {I64(n), 20}}, nil, 10, nil, 7)
	}
}

// TestErrors has several errors, each once ahead of each other one: the first counts.
func (p Placer) TestErrors() {
	taken := []api.Value{{T: 0x7f, N: 5}, {T: 0x7e, N: 5}}
	good := Segment{Imported(0), 2}
	bad := []Bad[Segment]{
		{Segment{I32(5), 3}, 45},
		{Segment{I32(8), 0}, 45},
		{Segment{Imported(0), 3}, 45},
		{Segment{I64(5), 1}, 7},
		{Segment{Imported(1), 1}, 7},
		{Segment{Imported(2), 1}, 24},
	}
	for _, x := range WrongConsts() {
		bad = append(bad, Bad[Segment]{Segment{x.E, len(bad) % 3 * 4}, x.Why})
	}
	for _, first := range bad {
		p([]Segment{first.E}, taken, 7, nil, first.Why)
		p([]Segment{good, first.E, good}, taken, 7, nil, first.Why)
		for _, second := range bad {
			p([]Segment{first.E, second.E}, taken, 7, nil, first.Why)
			p([]Segment{good, good, first.E, good, second.E, good}, taken, 7, nil, first.Why)
		}
	}
	for op := range 256 {
		p.Agrees([]Segment{{Plain(byte(op)), 1}}, taken, 7)
		p.Agrees([]Segment{good, {Plain(byte(op)), 8}}, taken, 7)
	}
}

// TestShortLists has all lists of up to three segments that begin in eight ways and have up to two things each.
func (p Placer) TestShortLists() {
	taken := []api.Value{{T: 0x7f, N: 2}, {T: 0x7e, N: 1}}
	var alphabet []Segment
	for n := range 3 {
		for _, offset := range []api.Instr{I32(0), I32(1), I32(3), I32(math.MaxUint32), I64(0), Imported(0), Imported(1), {Op: 0x20}} {
			alphabet = append(alphabet, Segment{offset, n})
		}
	}
	for n := range 4 {
		Words(alphabet, n, func(list []Segment) {
			for size := range uint64(5) {
				p.Agrees(list, taken, size)
			}
			p.Agrees(list, taken[:1], 3)
		})
	}
}

// TestAnySegments has segments that come by chance.
func (p Placer) TestAnySegments() {
	next := Chance(11)
	for range 6000 {
		taken := make([]api.Value, next(4))
		for k := range taken {
			taken[k] = api.Value{T: 0x7f, N: uint64(next(20))}
			if next(9) == 0 {
				taken[k].T = byte(next(256))
			}
		}
		list := make([]Segment, next(6))
		for k := range list {
			list[k] = fixed(uint64(next(20)), next(5))
			switch next(9) {
			case 0, 1, 2:
				list[k].Offset = Imported(uint64(next(5)))
			case 3:
				list[k].Offset.A = math.MaxUint32 - uint64(next(5))
			case 4:
				list[k].Offset.Op = byte(next(256))
			}
		}
		p.Agrees(list, taken, uint64(next(30)))
	}
}
