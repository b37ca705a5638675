package elems_test

import (
	"math"
	"slices"
	"strings"
	"testing"

	"creel/abort"
	"creel/api"
	"creel/elems"
	"creel/scan"
	"creel/trial"
)

// The model stands in package trial: it is written from the chapters with numbers of its own, and asks no layer.

// What the tests are made of.

// elem has functions in a table.
func elem(offset api.Instr, funcs ...uint32) api.Elem { return api.Elem{Offset: offset, Funcs: funcs} }

// filled has so many functions, which differ from each other.
func filled(offset api.Instr, n int) api.Elem {
	x := elem(offset)
	for at := range n {
		x.Funcs = append(x.Funcs, uint32(at)*429497) // the 10000th is one of the largest
	}
	return x
}

// Checks.

// checkSlots checks the slots of segments, or the error and that there are none.
func checkSlots(t *testing.T, list []api.Elem, taken []api.Value, size uint32, want []elems.Slot, e api.Errno) {
	t.Helper()
	if got, gotE := elems.Slots(list, taken, size); !slices.Equal(got, want) || gotE != e {
		t.Errorf("Slots(%v, %x, %d): %d, %v, %d, want %d, %v, %d", told(list), taken, size, len(got), few(got), gotE, len(want), few(want), e)
	}
}

// few are what of a long list is worth telling.
func few[E any](list []E) []E { return list[:min(len(list), 9)] }

// told are some segments with some of their functions.
func told(list []api.Elem) []any {
	var some []any
	for _, x := range few(list) {
		some = append(some, tell(x))
	}
	return some
}

// placer puts functions into segments, from 100 on, and looks for them in their slots.
func placer(t *testing.T) trial.Placer {
	return func(list []trial.Segment, taken []api.Value, size uint64, starts []uint32, e api.Errno) {
		t.Helper()
		f := uint32(100)
		some := make([]api.Elem, len(list))
		var want []elems.Slot
		for at, x := range list {
			some[at].Offset = x.Offset
			for n := range x.N {
				some[at].Funcs = append(some[at].Funcs, f)
				if e == 0 {
					want = append(want, elems.Slot{At: starts[at] + uint32(n), Func: f})
				}
				f++
			}
		}
		checkSlots(t, some, taken, uint32(size), want, e)
	}
}

// layer is what reads and writes.
var layer = trial.Layer[api.Elem]{
	Right:  elems.Right,
	Put:    elems.Put,
	Get:    elems.Get,
	GetAll: elems.GetAll,
	PutAll: elems.PutAll,

	ModelRight: trial.ElemError,
	ModelPut:   trial.ElemBytes,
	ModelGet:   (*trial.Model).Elem,

	Samples: samples,
	Wrong:   wrong,
	Broken:  broken(),
	Any:     anyElem,
	Other:   elem(api.Instr{Op: 0x77, A: 7, B: 7}, 7, 7, 7),
	Same:    trial.SameElem,
	Tell:    func(x api.Elem) any { return tell(x) },
}

// segments is that of which one is made of an Offset and so many functions.
var segments = trial.Segments[api.Elem]{Layer: layer, With: filled, Most: 10000, Many: 29}

// one reads a segment.
var one = layer.One()

// tell is a segment with no more than is worth telling.
func tell(x api.Elem) api.Elem {
	x.Offset.L, x.Funcs = few(x.Offset.L), few(x.Funcs)
	return x
}

// edges are function indices at the edges of each length of their encoding.
func edges() []trial.Sample[uint32] {
	return []trial.Sample[uint32]{
		{E: 0, B: "\x00"},
		{E: 1, B: "\x01"},
		{E: 127, B: "\x7f"},
		{E: 128, B: "\x80\x01"},
		{E: 300, B: "\xac\x02"},
		{E: 1<<14 - 1, B: "\xff\x7f"},
		{E: 1 << 14, B: "\x80\x80\x01"},
		{E: 1<<21 - 1, B: "\xff\xff\x7f"},
		{E: 1 << 21, B: "\x80\x80\x80\x01"},
		{E: 1<<28 - 1, B: "\xff\xff\xff\x7f"},
		{E: 1 << 28, B: "\x80\x80\x80\x80\x01"},
		{E: 1<<31 - 1, B: "\xff\xff\xff\xff\x07"},
		{E: 1 << 31, B: "\x80\x80\x80\x80\x08"},
		{E: math.MaxUint32, B: "\xff\xff\xff\xff\x0f"},
	}
}

// samples has the chapter's example ahead; then each edge alone and with others, each form of Offset, and 128 functions.
func samples() []trial.Sample[api.Elem] {
	list := []trial.Sample[api.Elem]{
		{E: elem(trial.I32(5), 1, 2), B: "\x00\x41\x05\x0b\x02\x01\x02"},
		{E: elem(trial.I32(5)), B: "\x00\x41\x05\x0b\x00"},
	}
	all := elem(trial.Imported(1))
	var b string
	for _, x := range edges() {
		list = append(list, trial.Sample[api.Elem]{E: elem(trial.I32(0), x.E), B: "\x00\x41\x00\x0b\x01" + x.B})
		all.Funcs = append(all.Funcs, x.E)
		b += x.B
	}
	list = append(list, trial.Sample[api.Elem]{E: all, B: "\x00\x23\x01\x0b\x0e" + b})
	for at, x := range trial.Consts() {
		list = append(list, trial.Sample[api.Elem]{
			E: elem(x.E, slices.Repeat([]uint32{11}, at%4)...),
			B: "\x00" + x.B + trial.Uint(at%4) + strings.Repeat("\x0b", at%4),
		})
	}
	return append(list, trial.Sample[api.Elem]{
		E: elem(trial.I32(1), slices.Repeat([]uint32{65}, 128)...),
		B: "\x00\x41\x01\x0b\x80\x01" + strings.Repeat("A", 128),
	})
}

// wrong are segments that may not be, with each Offset that may not be, and with two errors.
func wrong() []trial.Bad[api.Elem] {
	list := []trial.Bad[api.Elem]{
		{E: filled(trial.I32(5), 10001), Why: 29},
		{E: filled(trial.Imported(0), 20000), Why: 29},
		// The number of functions counts ahead of the Offset.
		{E: filled(api.Instr{Op: 0x43}, 10001), Why: 29},
		{E: filled(trial.I32(1<<32), 10001), Why: 29},
		{E: api.Elem{}, Why: 12},
		{E: filled(api.Instr{Op: 0x6a}, 10000), Why: 12},
	}
	for at, x := range trial.WrongConsts() {
		list = append(list, trial.Bad[api.Elem]{E: filled(x.E, at%3), Why: x.Why})
	}
	return list
}

// broken has what is no beginning of a segment, and what is no number of functions, or no function.
func broken() []trial.Broken {
	const head = "\x00\x41\x05\x0b"
	list := slices.Concat(
		trial.BrokenHeads(),
		trial.BrokenNumbers(head, "\x00\x23\x80\x01\x0b"),
		trial.BrokenNumbers(head+"\x01", head+"\x02\x07", head+"\x83\x80\x00\x00\x80\x01", "\x00\x42\x7f\x0b\x90\x4e"),
	)
	for _, many := range []string{"\x91\x4e", "\x91\xce\x80\x80\x00", "\x80\x80\x01", "\x80\x80\x80\x80\x08", "\xff\xff\xff\xff\x0f"} {
		list = append(list, trial.Broken{B: head + many, Why: 29, At: 4}, trial.Broken{B: "\x00\x23\x80\x01\x0b" + many, Why: 29, At: 5})
	}
	return list
}

// P13.1

// TestNumberOfFunctions has none, one, 10000 and one more, with each form of Offset that may be and with others.
func TestNumberOfFunctions(t *testing.T) { segments.TestNumbers(t) }

// TestEveryInstruction has all opcodes, with as little behind them as may be and with more.
func TestEveryInstruction(t *testing.T) { segments.TestOpcodes(t) }

func TestPut(t *testing.T) { layer.TestPut(t) }

// TestPutOfMany has as many functions as may be, and numbers of them at the edges of their encoding.
func TestPutOfMany(t *testing.T) {
	for _, n := range []int{126, 127, 128, 129, 9999, 10000} {
		x := elem(trial.I32(0), make([]uint32, n)...)
		b := "\x00\x41\x00\x0b" + trial.Uint(n) + strings.Repeat("\x00", n)
		layer.Writes(t, x, b)
		one.Takes(t, b, x, len(b))
		x = filled(trial.Imported(7), n)
		b = trial.ElemBytes(x)
		layer.Writes(t, x, b)
		one.Takes(t, b+"\x00", x, len(b))
		one.Refuses(t, b[:len(b)-1], 2, len(b)-len(trial.Uint(x.Funcs[n-1])))
	}
}

// TestPutOfEmptyLists: an empty list is the same as none.
func TestPutOfEmptyLists(t *testing.T) {
	for _, x := range samples() {
		x.E.Offset.L = []uint32{}
		layer.Writes(t, x.E, x.B)
	}
	layer.Writes(t, api.Elem{Offset: trial.I32(5), Funcs: []uint32{}}, "\x00\x41\x05\x0b\x00")
	layer.Writes(t, api.Elem{Offset: trial.I32(5)}, "\x00\x41\x05\x0b\x00")
}

// TestExample is the chapter's.
func TestExample(t *testing.T) {
	x := api.Elem{Offset: api.Instr{Op: 0x41, A: 5}, Funcs: []uint32{1, 2}}
	layer.Writes(t, x, "\x00\x41\x05\x0b\x02\x01\x02")
	one.Takes(t, "\x00\x41\x05\x0b\x02\x01\x02", x, 7)
}

func TestGet(t *testing.T) { layer.TestGet(t) }

func TestGetInTurn(t *testing.T) { layer.TestGetInTurn(t) }

func TestBroken(t *testing.T) { layer.TestBroken(t) }

func TestFlags(t *testing.T) { segments.TestFlags(t) }

// TestCutOff cuts segments of each form off at every place: the error is at the part that is not whole.
func TestCutOff(t *testing.T) {
	layer.TestCutOff(t, "\x00\x23\x00\x0b\x00", []int{0, 1, 2, 3, 4})
	layer.TestCutOff(t, "\x00\x23\xff\xff\xff\xff\x0f\x0b\x01\xac\x02", []int{0, 1, 2, 7, 8, 9})
	layer.TestCutOff(t, "\x00\x41\x05\x0b\x02\x01\x02", []int{0, 1, 2, 3, 4, 5, 6})
	layer.TestCutOff(t, "\x00\x41\x85\x80\x80\x80\x00\x0b\x83\x80\x00\x80\x80\x00\x07\xff\xff\xff\xff\x0f", []int{0, 1, 2, 7, 8, 11, 14, 15})
	layer.TestCutOff(t, "\x00\x42\x7f\x0b\x01\x05", []int{0, 1, 2, 3, 4, 5})
	layer.TestCutOff(t, "\x00\x42\x80\x80\x80\x80\x80\x80\x80\x80\x80\x7f\x0b\x00", []int{0, 1, 2, 12, 13})
	// What may not be there is read whole before it is refused.
	one.Refuses(t, "\x00\x20", 2, 2)
	one.Refuses(t, "\x00\x20\x80", 2, 2)
	one.Refuses(t, "\x00\x28\x02", 2, 3)
	one.Refuses(t, "\x00\x0e\x02\x01", 2, 4)
}

// TestNumberThatIsTooLarge tells of more functions than follow.
func TestNumberThatIsTooLarge(t *testing.T) {
	const head = "\x00\x41\x05\x0b"
	one.Refuses(t, head+"\x01", 2, 5)
	one.Refuses(t, head+"\x03\x01\x02", 2, 7)
	one.Refuses(t, head+"\x7f\x01\x02", 2, 7)
	one.Refuses(t, head+"\x90\x4e", 2, 6)
	one.Refuses(t, head+"\x90\x4e\x01", 2, 7)
	one.Refuses(t, head+"\x90\x4e"+strings.Repeat("\x01", 9999), 2, 6+9999)
	one.Takes(t, head+"\x90\x4e"+strings.Repeat("\x01", 10001), elem(trial.I32(5), slices.Repeat([]uint32{1}, 10000)...), 6+10000)
	one.Refuses(t, head+"\x91\x4e"+strings.Repeat("\x01", 10001), 29, 4)
	one.Refuses(t, head+"\x91\x4e", 29, 4)
	one.Refuses(t, head+"\xff\xff\xff\xff\x0f", 29, 4)
	// A function that is left over is the beginning of another segment, or of nothing.
	one.Takes(t, head+"\x01\x01\x02", elem(trial.I32(5), 1), 6)
	layer.All().Refuses(t, "\x01"+head+"\x01\x01\x02", 14, 7)
	layer.All().Refuses(t, "\x02"+head+"\x01\x01\x02", 10, 7)
}

// TestFirstError has several errors in one segment: what comes first counts.
func TestFirstError(t *testing.T) {
	one.Refuses(t, "\x01\x43", 10, 0)
	one.Refuses(t, "\x02\x06", 10, 0)
	one.Refuses(t, "\x00\x43\x00\x0b\x91\x4e", 8, 1)
	one.Refuses(t, "\x00\x06\x00\x0b\x91\x4e", 9, 1)
	one.Refuses(t, "\x00\x20\x00\x0c", 12, 1)
	one.Refuses(t, "\x00\x20\x80\x80\x80\x80\x10\x0c", 3, 2)
	one.Refuses(t, "\x00\x41\x80\x80\x80\x80\x08\x0c", 3, 2)
	one.Refuses(t, "\x00\x41\x05\x0c\x91\x4e", 12, 3)
	one.Refuses(t, "\x00\x41\x05\x0b\x91\x4e\xff\xff\xff\xff\x1f", 29, 4)
	one.Refuses(t, "\x00\x41\x05\x0b\xff\xff\xff\xff\x1f", 3, 4)
	one.Refuses(t, "\x00\x41\x05\x0b\x03\x01\xff\xff\xff\xff\x1f\x80", 3, 6)
	one.Refuses(t, "\x00\x0b", 12, 1)
}

// TestLongerNumbers has numbers with more bytes than they need.
func TestLongerNumbers(t *testing.T) {
	one.Takes(t, "\x00\x41\x85\x80\x80\x80\x00\x0b\x02\x01\x02", elem(trial.I32(5), 1, 2), 11)
	one.Takes(t, "\x00\x23\x85\x00\x0b\x82\x00\x01\x02", elem(trial.Imported(5), 1, 2), 9)
	one.Takes(t, "\x00\x41\x05\x0b\x82\x80\x80\x80\x00\x81\x00\x82\x80\x80\x80\x00", elem(trial.I32(5), 1, 2), 16)
	one.Takes(t, "\x00\x41\x05\x0b\x80\x80\x80\x80\x00", elem(trial.I32(5)), 9)
}

// TestEveryByteChanged changes the bytes of segments, one at a time, to every value.
func TestEveryByteChanged(t *testing.T) {
	for _, good := range []string{
		"\x00\x41\x05\x0b\x02\x01\x02",
		"\x00\x42\xc0\xbb\x78\x0b\x01\xff\xff\xff\xff\x0f",
		"\x00\x23\x80\x01\x0b\x83\x00\x00\x80\x01\x80\x80\x01",
		"\x00\x41\xff\xff\xff\xff\x07\x0b\x80\x00",
	} {
		layer.TestBytes(t, good)
	}
}

// TestAllShortSegments tries the strings of the bytes that mean something, alone, behind a first byte and an opcode, and behind an Offset.
func TestAllShortSegments(t *testing.T) {
	layer.TestWords(t, "\x00\x01\x02\x0b\x23\x41\x80\xff", 4, "\x00\x41\x05")
	layer.TestWords(t, "\x00\x01\x02\x80\xff", 5, "\x00\x41\x05\x0b")
}

func TestGetAll(t *testing.T) { layer.TestGetAll(t) }

func TestGetAllOfAnotherNumber(t *testing.T) { layer.TestGetAllOfAnotherNumber(t) }

// many are segments that differ from each other.
func many(n int) []api.Elem {
	list := make([]api.Elem, n)
	for at := range list {
		list[at] = filled(api.Instr{Op: "\x41\x42\x23"[at%3], A: uint64(at)}, at%5)
	}
	return list
}

// TestMostSegments has 10000 of them and one more.
func TestMostSegments(t *testing.T) { layer.TestMost(t, many(10001)) }

func TestPutAll(t *testing.T) { layer.TestPutAll(t) }

func TestPutAllOfWrongOnes(t *testing.T) { layer.TestPutAllOfWrongOnes(t) }

// P13.2

func TestSlotsOfNone(t *testing.T) { placer(t).TestNone() }

func TestSlotsAtTheEdges(t *testing.T) { placer(t).TestEdges() }

func TestSlotsBeyondTheLargestIndex(t *testing.T) { placer(t).TestSums() }

func TestSlotsOfTakenValues(t *testing.T) { placer(t).TestTaken() }

func TestSlotsOfOtherTypes(t *testing.T) { placer(t).TestTypes() }

func TestErrorsOfSlots(t *testing.T) { placer(t).TestErrors() }

func TestSlotsOfAllShortLists(t *testing.T) { placer(t).TestShortLists() }

// TestSlots has the functions of several segments, in the order of the list.
func TestSlots(t *testing.T) {
	taken := []api.Value{{T: 0x7e, N: 1}, {T: 0x7f, N: 3}}
	list := []api.Elem{
		elem(trial.Imported(1), 7, 8),
		elem(trial.I32(0), math.MaxUint32, 0, 9),
		elem(trial.I32(2)),
		elem(trial.I32(4), 7),
	}
	want := []elems.Slot{{At: 3, Func: 7}, {At: 4, Func: 8}, {At: 0, Func: math.MaxUint32}, {At: 1, Func: 0}, {At: 2, Func: 9}, {At: 4, Func: 7}}
	checkSlots(t, list, taken, 5, want, 0)
	checkSlots(t, list, taken, math.MaxUint32, want, 0)
	checkSlots(t, list, taken, 4, nil, 45)
	checkSlots(t, list[:1], taken, 5, want[:2], 0)
	checkSlots(t, list[1:2], taken, 3, want[2:5], 0)
	checkSlots(t, list[1:2], nil, 2, nil, 45)
	checkSlots(t, list[2:3], nil, 2, nil, 0)
	checkSlots(t, list[2:3], nil, 1, nil, 45)
	checkSlots(t, list[3:], nil, 0, nil, 45)
}

// TestSlotsOfValuesAsTheyStand: an i32 of too many bits is what it is, and none of the indices.
func TestSlotsOfValuesAsTheyStand(t *testing.T) {
	for _, n := range []uint64{1 << 32, 1<<32 + 5, 1 << 63, math.MaxUint64 - 2, math.MaxUint64 - 1, math.MaxUint64} {
		taken := []api.Value{{T: 0x7f, N: n}}
		for _, k := range []int{0, 1, 2, 3, 4, 9, 10000} {
			for _, size := range []uint32{0, 1, 6, 100, math.MaxUint32} {
				checkSlots(t, []api.Elem{filled(trial.Imported(0), k)}, taken, size, nil, 45)
				checkSlots(t, []api.Elem{elem(trial.I32(0)), filled(trial.Imported(0), k)}, taken, size, nil, 45)
			}
		}
	}
}

// TestSlotsOfMany: nobody asks here how many functions a segment may have, nor how many segments there may be.
func TestSlotsOfMany(t *testing.T) {
	const n = 1 << 20
	var want []elems.Slot
	x := filled(trial.I32(0), n)
	for at, f := range x.Funcs {
		want = append(want, elems.Slot{At: uint32(at), Func: f})
	}
	checkSlots(t, []api.Elem{x}, nil, n, want, 0)
	checkSlots(t, []api.Elem{x}, nil, n-1, nil, 45)
	var list []api.Elem
	for at, f := range x.Funcs[:20000] {
		list = append(list, elem(trial.I32(uint64(at)), f))
	}
	checkSlots(t, list, nil, 20000, want[:20000], 0)
	checkSlots(t, list, nil, 19999, nil, 45)
}

// P13.3

// anyElem is one that may be, by chance.
func anyElem(next func(n int) int) api.Elem {
	offsets := trial.Consts()
	x := elem(offsets[next(len(offsets))].E)
	for range next(9) {
		x.Funcs = append(x.Funcs, uint32(next(1<<16))<<next(17))
	}
	return x
}

func TestGetInvertsPut(t *testing.T) {
	layer.TestInverse(t)
	layer.ComeBack(t, many(10000))
	layer.ComeBack(t, []api.Elem{filled(trial.I32(0), 10000), elem(trial.I32(5)), filled(trial.Imported(3), 9999)})
}

// P1

func TestManyBytes(t *testing.T) { layer.TestManyBytes(t) }

func TestAnySlots(t *testing.T) { placer(t).TestAnySegments() }

// TestAnything writes what comes by chance.
func TestAnything(t *testing.T) {
	next := trial.Chance(7)
	bad := wrong()
	for range 6000 {
		list := make([]api.Elem, next(6))
		for at := range list {
			list[at] = anyElem(next)
			switch next(8) {
			case 0:
				list[at].Offset.Op = byte(next(256))
			case 1:
				list[at].Offset.B = uint64(next(2))
			case 2:
				list[at] = bad[next(len(bad))].E
			}
			layer.AgreesOn(t, list[at])
		}
		layer.AgreesOnAll(t, list)
	}
}

// P2

// withRoom are segments of which the functions, and the labels of one, have room behind them, and all that this is.
func withRoom() ([]api.Elem, [][]uint32) {
	rooms := [][]uint32{{1, 2, 3, 4}, {5, 6, 7}, {8, 9}, {1, 2, 3}, {4, 5}}
	list := []api.Elem{
		elem(trial.Imported(0), rooms[0][:2]...),
		elem(trial.I32(7), rooms[1][:3]...),
		elem(trial.I32(0), rooms[2][:0]...),
		elem(api.Instr{Op: 0x0e, L: rooms[3][:2]}, rooms[4][:1]...),
	}
	return list, rooms
}

func sameNumbers(a, b [][]uint32) bool { return slices.EqualFunc(a, b, slices.Equal[[]uint32]) }

// TestArguments looks at bytes, lists, functions, labels and values, and at what is behind them that there is room for.
func TestArguments(t *testing.T) {
	layer.TestArguments(t)
	list, rooms := withRoom()
	wantList, wantRooms := withRoom()
	taken := []api.Value{{T: 0x7f, N: 3}, {T: 0x7e, N: 4}}
	wantTaken := slices.Clone(taken)
	for n := range len(list) + 1 {
		for k := range len(taken) + 1 {
			elems.PutAll(list[:n])
			elems.Slots(list[:n], taken[:k], 20)
			elems.Slots(list[n:], taken[:k], 20)
			elems.Slots(list[:n], taken[:k], 4)
		}
	}
	for _, x := range list {
		elems.Right(x)
		elems.Put(x)
	}
	if !slices.EqualFunc(list, wantList, trial.SameElem) || !sameNumbers(rooms, wantRooms) || !slices.Equal(taken, wantTaken) {
		t.Errorf("the list is %+v, the numbers are %d, the values %x", list, rooms, taken)
	}
}

// TestKept spoils what was handed in: the results stay, and the next ones are those of what it is then.
func TestKept(t *testing.T) {
	layer.TestKept(t)
	list := []api.Elem{elem(trial.Imported(1), 7, 8), elem(trial.I32(0), 9)}
	taken := []api.Value{{T: 0x7e}, {T: 0x7f, N: 3}}
	first, _ := elems.Put(list[0])
	second, _ := elems.PutAll(list)
	slots, _ := elems.Slots(list, taken, 10)
	trial.Spoil(list[0].Funcs, 99)
	trial.Spoil(list[1].Funcs, 98)
	taken[1].N = 5
	if string(first) != "\x00\x23\x01\x0b\x02\x07\x08" || string(second) != "\x02\x00\x23\x01\x0b\x02\x07\x08\x00\x41\x00\x0b\x01\x09" {
		t.Errorf("Put: % x, PutAll: % x", first, second)
	}
	if !slices.Equal(slots, []elems.Slot{{At: 3, Func: 7}, {At: 4, Func: 8}, {At: 0, Func: 9}}) {
		t.Errorf("Slots: %v", slots)
	}
	layer.Writes(t, list[0], "\x00\x23\x01\x0b\x02\x63\x63")
	checkSlots(t, list, taken, 10, []elems.Slot{{At: 5, Func: 99}, {At: 6, Func: 99}, {At: 0, Func: 98}}, 0)
}

// TestNew spoils results: neither the arguments nor the results of other calls change.
func TestNew(t *testing.T) {
	layer.TestNew(t)
	list := []api.Elem{elem(trial.Imported(1), 7, 8), elem(trial.I32(0), 9)}
	taken := []api.Value{{T: 0x7e}, {T: 0x7f, N: 3}}
	want := []elems.Slot{{At: 3, Func: 7}, {At: 4, Func: 8}, {At: 0, Func: 9}}
	first, _ := elems.Slots(list, taken, 5)
	second, _ := elems.Slots(list, taken, 5)
	trial.Spoil(first, elems.Slot{At: 77, Func: 77})
	if !slices.Equal(second, want) {
		t.Errorf("Slots: %v", second)
	}
	checkSlots(t, list, taken, 5, want, 0)
	if !slices.Equal(taken, []api.Value{{T: 0x7e}, {T: 0x7f, N: 3}}) {
		t.Errorf("the values are %x", taken)
	}
}

// TestNewFunctions spoils the functions of one segment that was read, with the room behind them: those of no other one change.
func TestNewFunctions(t *testing.T) {
	const b = "\x03\x00\x41\x05\x0b\x02\x01\x02\x00\x41\x05\x0b\x02\x01\x02\x00\x41\x07\x0b\x03\x04\x05\x06"
	want := []api.Elem{elem(trial.I32(5), 1, 2), elem(trial.I32(5), 1, 2), elem(trial.I32(7), 4, 5, 6)}
	read := func() []api.Elem {
		list, stop := abort.Value(func() []api.Elem { return elems.GetAll(scan.Over([]byte(b))) })
		if stop != (abort.Stop{}) || len(list) != 3 {
			t.Fatalf("GetAll: %d, %v", len(list), stop)
		}
		return list
	}
	other := read()
	for at := range want {
		list := read()
		trial.Spoil(list[at].Funcs, 99)
		list[at] = want[at]
		if !slices.EqualFunc(list, want, trial.SameElem) || !slices.EqualFunc(other, want, trial.SameElem) {
			t.Errorf("%d: %+v, and those read ahead %+v", at, list, other)
		}
	}
	s := scan.Over([]byte(b[1:]))
	first := elems.Get(s)
	second := elems.Get(s)
	trial.Spoil(first.Funcs, 99)
	if !trial.SameElem(second, want[1]) || !trial.SameElem(elems.Get(s), want[2]) {
		t.Errorf("Get: %+v", second)
	}
}

// TestCalls has calls with errors in between, also of Slots.
func TestCalls(t *testing.T) {
	layer.TestCalls(t)
	good := []api.Elem{elem(trial.I32(3), 7, 8)}
	for _, bad := range wrong() {
		elems.Slots([]api.Elem{good[0], bad.E}, nil, 5)
		checkSlots(t, good, nil, 5, []elems.Slot{{At: 3, Func: 7}, {At: 4, Func: 8}}, 0)
		checkSlots(t, good, nil, 4, nil, 45)
	}
}
