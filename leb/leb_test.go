package leb_test

import (
	"bytes"
	"math"
	"slices"
	"testing"

	"creel/api"
	"creel/leb"
)

// The model reads varints bit by bit, as the chapter describes them, and shares nothing with the package.

// width is more than the bits of the longest varint that any number may have.
const width = 128

// modelBits lays out the bits of a varint, lowest first, extended with zero bits or with its sign.
func modelBits(varint []byte, signed bool) (list [width]byte) {
	n := 0
	for _, x := range varint {
		for i := range 7 {
			list[n] = x >> i & 1
			n++
		}
	}
	for i := n; i < width && signed; i++ {
		list[i] = list[n-1]
	}
	return list
}

// modelMost counts the bytes for so many bits.
func modelMost(bits int) int {
	n := 0
	for room := 0; room < bits; room += 7 {
		n++
	}
	return n
}

// modelRead returns the bits of the number, as 64 of them, and the other results of ReadUint or ReadInt.
func modelRead(b []byte, at, bits int, signed bool) (uint64, int, api.Errno) {
	if bits < 1 || bits > 64 || at < 0 || at > len(b) {
		return 0, 0, api.ErrArg
	}
	n := 1 + slices.IndexFunc(b[at:], func(x byte) bool { return x < 0x80 })
	if n == 0 && len(b)-at < modelMost(bits) {
		return 0, 0, api.ErrShort
	}
	if n == 0 || n > modelMost(bits) {
		return 0, 0, api.ErrLeb
	}
	list := modelBits(b[at:at+n], signed)
	extension := byte(0)
	if signed {
		extension = list[bits-1]
	}
	for _, bit := range list[bits:] {
		if bit != extension {
			return 0, 0, api.ErrLeb
		}
	}
	v := uint64(0)
	for i, bit := range list[:64] {
		v |= uint64(bit) << i
	}
	return v, at + n, api.OK
}

// checkUint checks all the results of one ReadUint.
func checkUint(t *testing.T, b []byte, at, bits int, want uint64, next int, why api.Errno) {
	t.Helper()
	if v, n, e := leb.ReadUint(b, at, bits); v != want || n != next || e != why {
		t.Errorf("ReadUint(% x, %d, %d): %d, %d, %d, want %d, %d, %d", b, at, bits, v, n, e, want, next, why)
	}
}

// checkInt checks all the results of one ReadInt.
func checkInt(t *testing.T, b []byte, at, bits int, want int64, next int, why api.Errno) {
	t.Helper()
	if v, n, e := leb.ReadInt(b, at, bits); v != want || n != next || e != why {
		t.Errorf("ReadInt(% x, %d, %d): %d, %d, %d, want %d, %d, %d", b, at, bits, v, n, e, want, next, why)
	}
}

// checkFails checks that both readers return the same error, and zeros.
func checkFails(t *testing.T, b []byte, at, bits int, why api.Errno) {
	t.Helper()
	checkUint(t, b, at, bits, 0, 0, why)
	checkInt(t, b, at, bits, 0, 0, why)
}

// checkModel checks that both readers do as the model does.
func checkModel(t *testing.T, b []byte, at, bits int) {
	t.Helper()
	v, n, e := modelRead(b, at, bits, false)
	checkUint(t, b, at, bits, v, n, e)
	v, n, e = modelRead(b, at, bits, true)
	checkInt(t, b, at, bits, int64(v), n, e)
}

// greatest is the greatest number without a sign of a width.
func greatest(bits int) uint64 { return math.MaxUint64 >> (64 - bits) }

// top and least are the ends of the numbers with a sign of a width.
func top(bits int) int64   { return int64(greatest(bits) >> 1) }
func least(bits int) int64 { return -top(bits) - 1 }

// uints are numbers about the ends of all widths.
func uints() []uint64 {
	list := []uint64{0, 1, 2, 624485, 0x0123456789abcdef, 0xaaaaaaaaaaaaaaaa}
	for bits := 1; bits <= 64; bits++ {
		g := greatest(bits)
		list = append(list, g-1, g, g+1, g+2)
	}
	return list
}

// ints are numbers with a sign about the ends of all widths.
func ints() []int64 {
	list := []int64{0, 1, -1, 2, -2, 123456, -123456}
	for bits := 1; bits <= 64; bits++ {
		m := top(bits)
		list = append(list, m-1, m, m+1, m+2, -m-3, -m-2, -m-1, -m)
	}
	return list
}

// longer returns a varint of the same number in n bytes: with groups of zeros, or of the sign.
func longer(varint []byte, n int, group byte) []byte {
	list := slices.Clone(varint)
	for len(list) < n {
		list[len(list)-1] |= 0x80
		list = append(list, group)
	}
	return list
}

// isVarint tells whether all bytes but the last one have their highest bit set.
func isVarint(b []byte) bool {
	return 1+slices.IndexFunc(b, func(x byte) bool { return x < 0x80 }) == len(b) && len(b) > 0
}

// P2.1

func TestUint(t *testing.T) {
	for _, c := range []struct {
		v    uint64
		want []byte
	}{
		{0, []byte{0}}, {1, []byte{1}}, {2, []byte{2}}, {63, []byte{0x3f}}, {64, []byte{0x40}}, {127, []byte{0x7f}},
		{128, []byte{0x80, 1}}, {129, []byte{0x81, 1}}, {255, []byte{0xff, 1}}, {256, []byte{0x80, 2}},
		{16383, []byte{0xff, 0x7f}}, {16384, []byte{0x80, 0x80, 1}}, {624485, []byte{0xe5, 0x8e, 0x26}},
		{math.MaxUint32, []byte{0xff, 0xff, 0xff, 0xff, 0x0f}},
		{1 << 62, []byte{0x80, 0x80, 0x80, 0x80, 0x80, 0x80, 0x80, 0x80, 0x40}},
		{math.MaxInt64, []byte{0xff, 0xff, 0xff, 0xff, 0xff, 0xff, 0xff, 0xff, 0x7f}},
		{1 << 63, []byte{0x80, 0x80, 0x80, 0x80, 0x80, 0x80, 0x80, 0x80, 0x80, 1}},
		{math.MaxUint64, []byte{0xff, 0xff, 0xff, 0xff, 0xff, 0xff, 0xff, 0xff, 0xff, 1}},
	} {
		if got := leb.Uint(c.v); !bytes.Equal(got, c.want) {
			t.Errorf("Uint(%d): % x, want % x", c.v, got, c.want)
		}
		if got := leb.Size(c.v); got != len(c.want) {
			t.Errorf("Size(%d): %d, want %d", c.v, got, len(c.want))
		}
	}
}

func TestInt(t *testing.T) {
	for _, c := range []struct {
		v    int64
		want []byte
	}{
		{0, []byte{0}}, {1, []byte{1}}, {-1, []byte{0x7f}}, {-2, []byte{0x7e}},
		{63, []byte{0x3f}}, {64, []byte{0xc0, 0}}, {-64, []byte{0x40}}, {-65, []byte{0xbf, 0x7f}},
		{127, []byte{0xff, 0}}, {128, []byte{0x80, 1}}, {-127, []byte{0x81, 0x7f}}, {-128, []byte{0x80, 0x7f}},
		{8191, []byte{0xff, 0x3f}}, {8192, []byte{0x80, 0xc0, 0}}, {-8192, []byte{0x80, 0x40}}, {-8193, []byte{0xff, 0xbf, 0x7f}},
		{624485, []byte{0xe5, 0x8e, 0x26}}, {-123456, []byte{0xc0, 0xbb, 0x78}},
		{math.MaxInt32, []byte{0xff, 0xff, 0xff, 0xff, 0x07}}, {math.MinInt32, []byte{0x80, 0x80, 0x80, 0x80, 0x78}},
		{1<<62 - 1, []byte{0xff, 0xff, 0xff, 0xff, 0xff, 0xff, 0xff, 0xff, 0x3f}},
		{1 << 62, []byte{0x80, 0x80, 0x80, 0x80, 0x80, 0x80, 0x80, 0x80, 0xc0, 0}},
		{-1 << 62, []byte{0x80, 0x80, 0x80, 0x80, 0x80, 0x80, 0x80, 0x80, 0x40}},
		{math.MaxInt64, []byte{0xff, 0xff, 0xff, 0xff, 0xff, 0xff, 0xff, 0xff, 0xff, 0}},
		{math.MinInt64, []byte{0x80, 0x80, 0x80, 0x80, 0x80, 0x80, 0x80, 0x80, 0x80, 0x7f}},
	} {
		if got := leb.Int(c.v); !bytes.Equal(got, c.want) {
			t.Errorf("Int(%d): % x, want % x", c.v, got, c.want)
		}
	}
}

func TestUintIsTheShortestVarint(t *testing.T) {
	for _, v := range uints() {
		b := leb.Uint(v)
		if !isVarint(b) {
			t.Errorf("Uint(%d): % x is no varint", v, b)
			continue
		}
		if got, _, e := modelRead(b, 0, 64, false); got != v || e != api.OK {
			t.Errorf("Uint(%d): % x is %d, error %d", v, b, got, e)
		}
		if shorter := 7 * (len(b) - 1); len(b) > 1 && v>>shorter == 0 {
			t.Errorf("Uint(%d): % x, though %d bits are enough", v, b, shorter)
		}
		if got := leb.Size(v); got != len(b) {
			t.Errorf("Size(%d): %d, and Uint has %d bytes", v, got, len(b))
		}
	}
}

func TestIntIsTheShortestVarint(t *testing.T) {
	for _, v := range ints() {
		b := leb.Int(v)
		if !isVarint(b) {
			t.Errorf("Int(%d): % x is no varint", v, b)
			continue
		}
		if got, _, e := modelRead(b, 0, 64, true); int64(got) != v || e != api.OK {
			t.Errorf("Int(%d): % x is %d, error %d", v, b, int64(got), e)
		}
		if shorter := 7 * (len(b) - 1); len(b) > 1 && least(shorter) <= v && v <= top(shorter) {
			t.Errorf("Int(%d): % x, though %d bits are enough", v, b, shorter)
		}
	}
}

func TestRightAndMost(t *testing.T) {
	for bits := -70; bits <= 200; bits++ {
		right, most := bits > 0 && bits < 65, 0
		if right {
			most = modelMost(bits)
		}
		if leb.Right(bits) != right || leb.Most(bits) != most {
			t.Errorf("%d bits: Right %t, Most %d, want %t, %d", bits, leb.Right(bits), leb.Most(bits), right, most)
		}
	}
	for _, bits := range []int{math.MinInt, math.MinInt + 1, math.MaxInt - 1, math.MaxInt, 1<<32 + 8} {
		if leb.Right(bits) || leb.Most(bits) != 0 {
			t.Errorf("%d bits: Right %t, Most %d", bits, leb.Right(bits), leb.Most(bits))
		}
	}
	for _, c := range []struct{ bits, want int }{{1, 1}, {7, 1}, {8, 2}, {14, 2}, {15, 3}, {32, 5}, {33, 5}, {35, 5}, {36, 6}, {63, 9}, {64, 10}} {
		if got := leb.Most(c.bits); got != c.want {
			t.Errorf("Most(%d): %d, want %d", c.bits, got, c.want)
		}
	}
}

// P2.2

func TestReadUint(t *testing.T) {
	b := []byte{0xe5, 0x8e, 0x26, 0x00, 0x7f, 0x80, 0x01}
	checkUint(t, b, 0, 32, 624485, 3, api.OK)
	checkUint(t, b, 0, 20, 624485, 3, api.OK)
	checkUint(t, b, 0, 19, 0, 0, api.ErrLeb)
	checkUint(t, b, 1, 32, 4878, 3, api.OK)
	checkUint(t, b, 2, 6, 0x26, 3, api.OK)
	checkUint(t, b, 3, 1, 0, 4, api.OK)
	checkUint(t, b, 4, 7, 127, 5, api.OK)
	checkUint(t, b, 4, 6, 0, 0, api.ErrLeb)
	checkUint(t, b, 5, 8, 128, 7, api.OK)
	checkUint(t, b, 5, 7, 0, 0, api.ErrLeb)
	checkUint(t, b, 6, 64, 1, 7, api.OK)
	checkUint(t, b, 7, 64, 0, 0, api.ErrShort)
}

func TestReadInt(t *testing.T) {
	b := []byte{0xc0, 0xbb, 0x78, 0x00, 0x7f, 0x80, 0x01, 0x40}
	checkInt(t, b, 0, 32, -123456, 3, api.OK)
	checkInt(t, b, 0, 18, -123456, 3, api.OK)
	checkInt(t, b, 0, 17, 0, 0, api.ErrLeb)
	checkInt(t, b, 1, 32, -965, 3, api.OK)
	checkInt(t, b, 2, 4, -8, 3, api.OK)
	checkInt(t, b, 2, 3, 0, 0, api.ErrLeb)
	checkInt(t, b, 3, 1, 0, 4, api.OK)
	checkInt(t, b, 4, 1, -1, 5, api.OK)
	checkInt(t, b, 5, 9, 128, 7, api.OK)
	checkInt(t, b, 5, 8, 0, 0, api.ErrLeb)
	checkInt(t, b, 6, 2, 1, 7, api.OK)
	checkInt(t, b, 6, 1, 0, 0, api.ErrLeb)
	checkInt(t, b, 7, 7, -64, 8, api.OK)
	checkInt(t, b, 7, 6, 0, 0, api.ErrLeb)
	checkInt(t, b, 8, 64, 0, 0, api.ErrShort)
}

func TestReadWrongArguments(t *testing.T) {
	full := []byte{0, 1, 2}
	for _, b := range [][]byte{nil, {}, full, {0x80}, {0xff, 0xff}} {
		for _, bits := range []int{math.MinInt, -64, -7, -1, 0, 65, 66, 70, 128, 1<<32 + 32, math.MaxInt} {
			for _, at := range []int{math.MinInt, -1, 0, len(b), len(b) + 1, math.MaxInt} {
				checkFails(t, b, at, bits, api.ErrArg)
			}
		}
		for _, at := range []int{math.MinInt, -10, -1, len(b) + 1, len(b) + 10, math.MaxInt - 1, math.MaxInt} {
			for _, bits := range []int{1, 7, 8, 32, 64} {
				checkFails(t, b, at, bits, api.ErrArg)
			}
		}
	}
}

func TestReadAtTheEnd(t *testing.T) {
	for bits := 1; bits <= 64; bits++ {
		for _, b := range [][]byte{nil, {}, {0}, {0x80}, {0, 1, 2}} {
			checkFails(t, b, len(b), bits, api.ErrShort)
		}
	}
}

func TestReadShort(t *testing.T) {
	for bits := 1; bits <= 64; bits++ {
		for n := range leb.Most(bits) {
			for _, x := range []byte{0x80, 0xff, 0xc0, 0x81} {
				b := bytes.Repeat([]byte{x}, n)
				checkFails(t, b, 0, bits, api.ErrShort)
				checkFails(t, slices.Concat([]byte{0, 0xff, 0}, b), 3, bits, api.ErrShort)
			}
		}
	}
}

func TestReadTooManyBytes(t *testing.T) {
	for bits := 1; bits <= 64; bits++ {
		most := leb.Most(bits)
		for n := most; n < most+4; n++ {
			for _, x := range []byte{0x80, 0xff} {
				// The bytes need not go on behind those that a number may have.
				b := bytes.Repeat([]byte{x}, n)
				checkFails(t, b, 0, bits, api.ErrLeb)
				checkFails(t, append(b, x&0x7f), 0, bits, api.ErrLeb)
				checkFails(t, slices.Concat([]byte{0}, b, []byte{0}), 1, bits, api.ErrLeb)
			}
		}
	}
}

func TestReadUintAboveTheWidth(t *testing.T) {
	for bits := 1; bits <= 64; bits++ {
		most := leb.Most(bits)
		for above := bits; above < 7*most; above++ {
			b := longer([]byte{0}, most, 0)
			b[most-1] |= 1 << (above % 7)
			checkUint(t, b, 0, bits, 0, 0, api.ErrLeb)
			b = longer(leb.Uint(greatest(bits)), most, 0)
			b[most-1] |= 1 << (above % 7)
			checkUint(t, b, 0, bits, 0, 0, api.ErrLeb)
		}
	}
}

func TestReadIntAboveTheWidth(t *testing.T) {
	for bits := 1; bits <= 64; bits++ {
		most := leb.Most(bits)
		for _, v := range []int64{0, top(bits), -1, least(bits)} {
			group := byte(v>>63) & 0x7f
			for above := bits; above < 7*most; above++ {
				b := longer(leb.Int(v), most, group)
				b[most-1] ^= 1 << (above % 7)
				checkInt(t, b, 0, bits, 0, 0, api.ErrLeb)
			}
			if bits%7 != 0 {
				// The sign bit alone is turned.
				b := longer(leb.Int(v), most, group)
				b[most-1] ^= 1 << ((bits - 1) % 7)
				checkInt(t, b, 0, bits, 0, 0, api.ErrLeb)
			}
		}
	}
}

func TestReadNumbersThatDoNotFit(t *testing.T) {
	for bits := 1; bits < 64; bits++ {
		checkUint(t, leb.Uint(greatest(bits)+1), 0, bits, 0, 0, api.ErrLeb)
		checkUint(t, leb.Uint(math.MaxUint64), 0, bits, 0, 0, api.ErrLeb)
		checkInt(t, leb.Int(top(bits)+1), 0, bits, 0, 0, api.ErrLeb)
		checkInt(t, leb.Int(least(bits)-1), 0, bits, 0, 0, api.ErrLeb)
		checkInt(t, leb.Int(math.MaxInt64), 0, bits, 0, 0, api.ErrLeb)
		checkInt(t, leb.Int(math.MinInt64), 0, bits, 0, 0, api.ErrLeb)
	}
}

func TestReadAllShortInputs(t *testing.T) {
	for bits := -1; bits <= 66; bits++ {
		for x := range 256 {
			checkModel(t, []byte{byte(x)}, 0, bits)
			for _, y := range []byte{0, 1, 2, 3, 7, 8, 0x0f, 0x1f, 0x20, 0x3f, 0x40, 0x41, 0x60, 0x70, 0x7e, 0x7f, 0x80, 0xc0, 0xff} {
				for at := range 2 {
					checkModel(t, []byte{byte(x), y}, at, bits)
					checkModel(t, []byte{y, byte(x)}, at, bits)
				}
			}
		}
	}
}

func TestReadAllLastBytes(t *testing.T) {
	for bits := 1; bits <= 64; bits++ {
		for n := range leb.Most(bits) + 2 {
			for _, x := range []byte{0x80, 0xff, 0xaa, 0xd5, 0xc0, 0xbf} {
				for last := range 256 {
					b := append(bytes.Repeat([]byte{x}, n), byte(last))
					checkModel(t, b, 0, bits)
					checkModel(t, append(b, 0), 0, bits)
				}
			}
		}
	}
}

// P2.3

// surrounded checks a varint by itself, and between other bytes, which must not matter.
func surrounded(varint []byte, check func(b []byte, at, next int)) {
	for _, x := range [][]byte{nil, {0}, {0x7f}, {0x80, 0xff}} {
		for _, y := range [][]byte{nil, {0}, {0xff}, {0x80, 0x80, 0x80}} {
			check(slices.Concat(x, varint, y), len(x), len(x)+len(varint))
		}
	}
}

func TestNumbersThatFitAreDecodedToThemselves(t *testing.T) {
	for bits := 1; bits <= 64; bits++ {
		for _, v := range append(uints(), 0, greatest(bits)) {
			if v <= greatest(bits) {
				surrounded(leb.Uint(v), func(b []byte, at, next int) { checkUint(t, b, at, bits, v, next, api.OK) })
			}
		}
		for _, v := range append(ints(), 0, -1, least(bits), top(bits)) {
			if least(bits) <= v && v <= top(bits) {
				surrounded(leb.Int(v), func(b []byte, at, next int) { checkInt(t, b, at, bits, v, next, api.OK) })
			}
		}
	}
}

func TestLongerVarintsOfTheSameNumber(t *testing.T) {
	for bits := 1; bits <= 64; bits++ {
		most := leb.Most(bits)
		for _, v := range []uint64{0, 1, greatest(bits) / 3, greatest(bits) / 2, greatest(bits)} {
			for n := len(leb.Uint(v)); n <= most; n++ {
				surrounded(longer(leb.Uint(v), n, 0), func(b []byte, at, next int) { checkUint(t, b, at, bits, v, next, api.OK) })
			}
			checkUint(t, longer(leb.Uint(v), most+1, 0), 0, bits, 0, 0, api.ErrLeb)
		}
		for _, v := range []int64{0, top(bits) / 3, top(bits), -1, least(bits) / 2, least(bits)} {
			group := byte(v>>63) & 0x7f
			for n := len(leb.Int(v)); n <= most; n++ {
				surrounded(longer(leb.Int(v), n, group), func(b []byte, at, next int) { checkInt(t, b, at, bits, v, next, api.OK) })
			}
			checkInt(t, longer(leb.Int(v), most+1, group), 0, bits, 0, 0, api.ErrLeb)
		}
	}
}

// P1

func TestReadersEndForAllArguments(t *testing.T) {
	edges := []int{math.MinInt, math.MinInt + 1, -65, -1, 0, 1, 2, 3, 9, 10, 11, 63, 64, 65, math.MaxInt - 1, math.MaxInt}
	for _, b := range [][]byte{nil, {}, {0}, {0x80}, {0xff, 0}, bytes.Repeat([]byte{0x80}, 9), bytes.Repeat([]byte{0xff}, 10), bytes.Repeat([]byte{0xff}, 100000)} {
		for _, at := range append(edges, len(b)-1, len(b), len(b)+1) {
			for _, bits := range edges {
				checkModel(t, b, at, bits)
			}
		}
	}
}

// P2

func TestReadersDoNotTouchTheirBytes(t *testing.T) {
	// The bytes behind the length, in the spare capacity, are no part of the argument.
	room := []byte{0, 0xc0, 0xbb, 0x78, 0x80, 0x01, 0x02}
	whole := slices.Clone(room)
	checkInt(t, room[:4], 1, 32, -123456, 4, api.OK)
	checkUint(t, room[:4], 1, 32, 1973696, 4, api.OK)
	checkFails(t, room[:3], 1, 32, api.ErrShort)
	checkFails(t, room[:5], 4, 32, api.ErrShort)
	checkFails(t, room[:4], 4, 32, api.ErrShort)
	checkFails(t, room[:4], 5, 32, api.ErrArg)
	checkFails(t, room[:4], 1, 14, api.ErrLeb)
	if !bytes.Equal(room, whole) {
		t.Errorf("the bytes were % x and are % x", whole, room)
	}
}

func TestReadersKeepNothing(t *testing.T) {
	b := []byte{0xe5, 0x8e, 0x26}
	for range 3 {
		checkUint(t, b, 0, 32, 624485, 3, api.OK)
		checkInt(t, b, 0, 32, 624485, 3, api.OK)
		checkFails(t, b, 4, 32, api.ErrArg)
		checkFails(t, b[:2], 0, 32, api.ErrShort)
		checkFails(t, b, 0, 14, api.ErrLeb)
	}
	b[2] = 0x7f
	checkUint(t, b, 0, 32, 2082661, 3, api.OK)
	checkInt(t, b, 0, 32, -14491, 3, api.OK)
}

func TestResultsAreNew(t *testing.T) {
	spoil := func(b []byte) {
		whole := b[:cap(b)]
		for i := range whole {
			whole[i] = 0x55
		}
	}
	for _, v := range uints() {
		want := slices.Clone(leb.Uint(v))
		first, second := leb.Uint(v), leb.Uint(v)
		spoil(first)
		if third := leb.Uint(v); !bytes.Equal(second, want) || !bytes.Equal(third, want) {
			t.Errorf("Uint(%d): % x, then % x, want % x", v, second, third, want)
		}
	}
	for _, v := range ints() {
		want := slices.Clone(leb.Int(v))
		first, second := leb.Int(v), leb.Int(v)
		spoil(first)
		if third := leb.Int(v); !bytes.Equal(second, want) || !bytes.Equal(third, want) {
			t.Errorf("Int(%d): % x, then % x, want % x", v, second, third, want)
		}
	}
}
