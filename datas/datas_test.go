package datas_test

import (
	"math"
	"slices"
	"testing"

	"creel/abort"
	"creel/api"
	"creel/datas"
	"creel/scan"
	"creel/trial"
)

// The model stands in package trial: it is written from the chapters with numbers of its own, and asks no layer.

// What the tests are made of.

const most = 1 << 22 // bytes of a segment

// data has bytes in a memory.
func data(offset api.Instr, bytes string) api.Data { return api.Data{Offset: offset, Bytes: bytes} }

// mixed are as many bytes as any test needs, of all values. Each 256 of them stand in another order.
var mixed = func() string {
	b := make([]byte, 2*most)
	for at := range b {
		b[at] = byte(at ^ at>>8 ^ at>>16)
	}
	return string(b)
}()

// filled has so many bytes.
func filled(offset api.Instr, n int) api.Data { return data(offset, mixed[:n]) }

// Checks.

// checkPieces checks the pieces of segments, or the error and that there are none.
func checkPieces(t *testing.T, list []api.Data, taken []api.Value, size uint64, want []datas.Piece, e api.Errno) {
	t.Helper()
	if got, gotE := datas.Pieces(list, taken, size); !slices.Equal(got, want) || gotE != e {
		t.Errorf("Pieces(%+v, %x, %d): %d, %+v, %d, want %d, %+v, %d", told(list), taken, size, len(got), shown(got), gotE, len(want), shown(want), e)
	}
}

// few are what of a long list is worth telling.
func few[E any](list []E) []E { return list[:min(len(list), 9)] }

// told are some segments with some of their bytes.
func told(list []api.Data) []any {
	var some []any
	for _, x := range few(list) {
		some = append(some, tell(x))
	}
	return some
}

// shown are some pieces with some of their bytes.
func shown(list []datas.Piece) []datas.Piece {
	some := slices.Clone(few(list))
	for at := range some {
		some[at].Bytes = trial.Short(some[at].Bytes)
	}
	return some
}

// placer puts bytes into segments, which differ from those of the next ones, and looks for them in their pieces.
func placer(t *testing.T) trial.Placer {
	return func(list []trial.Segment, taken []api.Value, size uint64, starts []uint32, e api.Errno) {
		t.Helper()
		some := make([]api.Data, len(list))
		var want []datas.Piece
		for at, x := range list {
			some[at] = data(x.Offset, mixed[100*at:][:x.N])
			if e == 0 {
				want = append(want, datas.Piece{At: starts[at], Bytes: some[at].Bytes})
			}
		}
		checkPieces(t, some, taken, size, want, e)
	}
}

// layer is what reads and writes.
var layer = trial.Layer[api.Data]{
	Right:  datas.Right,
	Put:    datas.Put,
	Get:    datas.Get,
	GetAll: datas.GetAll,
	PutAll: datas.PutAll,

	ModelRight: trial.DataError,
	ModelPut:   trial.DataBytes,
	ModelGet:   (*trial.Model).Data,

	Samples: samples,
	Wrong:   wrong,
	Broken:  broken(),
	Any:     anyData,
	Other:   data(api.Instr{Op: 0x77, A: 7, B: 7}, "other"),
	Same:    trial.SameData,
	Tell:    func(x api.Data) any { return tell(x) },
}

// segments is that of which one is made of an Offset and so many bytes.
var segments = trial.Segments[api.Data]{Layer: layer, With: filled, Most: most, Many: 13}

// one and all read a segment, and a list of them.
var one, all = layer.One(), layer.All()

// tell is a segment with no more than is worth telling.
func tell(x api.Data) api.Data {
	x.Offset.L, x.Bytes = few(x.Offset.L), trial.Short(x.Bytes)
	return x
}

// samples has the chapter's example ahead; then bytes that are no text, or look like what stands around them, and each form of Offset.
func samples() []trial.Sample[api.Data] {
	list := []trial.Sample[api.Data]{
		{E: data(trial.I32(5), "ab"), B: "\x00\x41\x05\x0b\x02ab"},
		{E: data(trial.I32(5), ""), B: "\x00\x41\x05\x0b\x00"},
		{E: data(trial.I32(0), "a"), B: "\x00\x41\x00\x0b\x01a"},
		{E: data(trial.I32(0), "\x00"), B: "\x00\x41\x00\x0b\x01\x00"},
		{E: data(trial.I32(0), "\x00\x00\x00"), B: "\x00\x41\x00\x0b\x03\x00\x00\x00"},
		{E: data(trial.Imported(1), "\xff"), B: "\x00\x23\x01\x0b\x01\xff"},
		{E: data(trial.Imported(1), "\x80\x80\x80\x80\x80\x80"), B: "\x00\x23\x01\x0b\x06\x80\x80\x80\x80\x80\x80"},
		{E: data(trial.I32(1), "\u20ac\xe2\x82\xed\xa0\x80"), B: "\x00\x41\x01\x0b\x08\xe2\x82\xac\xe2\x82\xed\xa0\x80"},
		{E: data(trial.I32(1), "\x00\x41\x05\x0b\x02ab"), B: "\x00\x41\x01\x0b\x07\x00\x41\x05\x0b\x02ab"},
		{E: data(trial.I32(1), mixed[:126]), B: "\x00\x41\x01\x0b\x7e" + mixed[:126]},
		{E: data(trial.I32(1), mixed[:127]), B: "\x00\x41\x01\x0b\x7f" + mixed[:127]},
		{E: data(trial.I32(1), mixed[100:228]), B: "\x00\x41\x01\x0b\x80\x01" + mixed[100:228]},
		{E: data(trial.Imported(0), mixed[128:257]), B: "\x00\x23\x00\x0b\x81\x01" + mixed[128:257]},
	}
	for at, x := range trial.Consts() {
		n := at % 4
		list = append(list, trial.Sample[api.Data]{E: data(x.E, "\x0b\x41\x00"[:n]), B: "\x00" + x.B + trial.Uint(n) + "\x0b\x41\x00"[:n]})
	}
	return list
}

// wrong are segments that may not be, with each Offset that may not be, and with two errors.
func wrong() []trial.Bad[api.Data] {
	list := []trial.Bad[api.Data]{
		{E: filled(trial.I32(5), most+1), Why: 13},
		{E: filled(trial.Imported(0), 2*most), Why: 13},
		// The number of bytes counts ahead of the Offset.
		{E: filled(api.Instr{}, most+1), Why: 13},
		{E: filled(api.Instr{Op: 0x43}, most+1), Why: 13},
		{E: filled(trial.I32(1<<32), most+1), Why: 13},
		{E: api.Data{}, Why: 12},
		{E: filled(api.Instr{Op: 0x6a}, most), Why: 12},
	}
	for at, x := range trial.WrongConsts() {
		list = append(list, trial.Bad[api.Data]{E: filled(x.E, at%3), Why: x.Why})
	}
	return list
}

// broken has what is no beginning of a segment, what is no number of bytes, and numbers of more bytes than any test lets follow.
func broken() []trial.Broken {
	const head, other = "\x00\x41\x05\x0b", "\x00\x23\x80\x01\x0b"
	list := slices.Concat(trial.BrokenHeads(), trial.BrokenNumbers(head, other))
	for _, many := range []string{"\xff\x7f", "\xff\xff\x00", "\x80\x80\x80\x02", "\x81\x80\x80\x02", "\xff\xff\xff\xff\x07", "\x80\x80\x80\x80\x08", "\xff\xff\xff\xff\x0f"} {
		list = append(list, trial.Broken{B: head + many, Why: 2, At: 4 + len(many)}, trial.Broken{B: other + many + "ab", Why: 2, At: 5 + len(many)})
	}
	return list
}

// P15.1

// TestNumberOfBytes has none, one, 2^22 and one more, with each form of Offset that may be and with others.
func TestNumberOfBytes(t *testing.T) { segments.TestNumbers(t) }

// TestEveryInstruction has all opcodes, with as little behind them as may be and with more.
func TestEveryInstruction(t *testing.T) { segments.TestOpcodes(t) }

// TestEveryByte: all of them may be, and are no text.
func TestEveryByte(t *testing.T) {
	for b := range 256 {
		x := string([]byte{byte(b)})
		layer.Writes(t, data(trial.I32(5), x), "\x00\x41\x05\x0b\x01"+x)
		layer.Writes(t, data(trial.I32(5), "\xe2"+x+"\x00"), "\x00\x41\x05\x0b\x03\xe2"+x+"\x00")
		one.Takes(t, "\x00\x41\x05\x0b\x01"+x, data(trial.I32(5), x), 6)
		one.Takes(t, "\x00\x41\x05\x0b\x03\xe2"+x+"\x00", data(trial.I32(5), "\xe2"+x+"\x00"), 8)
	}
}

func TestPut(t *testing.T) { layer.TestPut(t) }

// TestSizes has numbers of bytes at the edges of each length of their encoding, up to 2^22.
func TestSizes(t *testing.T) {
	for _, x := range []struct {
		n    int
		size string
	}{
		{0, "\x00"}, {1, "\x01"}, {2, "\x02"}, {126, "\x7e"}, {127, "\x7f"},
		{128, "\x80\x01"}, {129, "\x81\x01"}, {300, "\xac\x02"}, {1<<14 - 1, "\xff\x7f"},
		{1 << 14, "\x80\x80\x01"}, {1<<14 + 1, "\x81\x80\x01"}, {1<<16 - 1, "\xff\xff\x03"}, {1 << 16, "\x80\x80\x04"}, {1<<21 - 1, "\xff\xff\x7f"},
		{1 << 21, "\x80\x80\x80\x01"}, {1<<21 + 1, "\x81\x80\x80\x01"}, {1<<22 - 1, "\xff\xff\xff\x01"}, {1 << 22, "\x80\x80\x80\x02"},
	} {
		from := 4 + len(x.size)
		b := "\x00\x41\x05\x0b" + x.size + mixed[:x.n]
		layer.Writes(t, filled(trial.I32(5), x.n), b)
		one.Takes(t, b, filled(trial.I32(5), x.n), len(b))
		one.Takes(t, b+"\x0b", filled(trial.I32(5), x.n), len(b))
		if x.n > 0 {
			one.Refuses(t, b[:len(b)-1], 2, from)
			one.Refuses(t, b[:from], 2, from)
		}
		b = "\x00\x23\x07\x0b" + x.size + mixed[7:7+x.n]
		list := []api.Data{data(trial.Imported(7), mixed[7:7+x.n]), filled(trial.Imported(7), 1)}
		layer.WritesAll(t, list, "\x02"+b+"\x00\x23\x07\x0b\x01"+mixed[:1], 0)
		all.Takes(t, "\x02"+b+"\x00\x23\x07\x0b\x01"+mixed[:1], list, 1+len(b)+6)
	}
}

// TestTooManyBytes: what has more bytes than may be is read, but not written.
func TestTooManyBytes(t *testing.T) {
	for _, n := range []int{most + 1, most + 2, 2 * most} {
		x := filled(trial.I32(5), n)
		b := trial.DataBytes(x)
		one.Takes(t, b, x, len(b))
		all.Takes(t, "\x01"+b, []api.Data{x}, 1+len(b))
		layer.Judges(t, x, 13)
		layer.WritesAll(t, []api.Data{x}, "", 13)
		layer.WritesAll(t, []api.Data{filled(trial.I32(5), most), x}, "", 13)
		one.Refuses(t, b[:len(b)-1], 2, 8)
	}
}

// TestPutOfEmptyLists: an empty list of labels is the same as none.
func TestPutOfEmptyLists(t *testing.T) {
	for _, x := range samples() {
		x.E.Offset.L = []uint32{}
		layer.Writes(t, x.E, x.B)
	}
}

// TestExample is the chapter's.
func TestExample(t *testing.T) {
	x := api.Data{Offset: api.Instr{Op: 0x41, A: 5}, Bytes: "ab"}
	layer.Writes(t, x, "\x00\x41\x05\x0b\x02\x61\x62")
	one.Takes(t, "\x00\x41\x05\x0b\x02\x61\x62", x, 7)
}

func TestGet(t *testing.T) { layer.TestGet(t) }

func TestGetInTurn(t *testing.T) { layer.TestGetInTurn(t) }

func TestBroken(t *testing.T) { layer.TestBroken(t) }

func TestFlags(t *testing.T) { segments.TestFlags(t) }

// TestCutOff cuts segments of each form off at every place: the error is at the part that is not whole.
func TestCutOff(t *testing.T) {
	layer.TestCutOff(t, "\x00\x23\x00\x0b\x00", []int{0, 1, 2, 3, 4})
	layer.TestCutOff(t, "\x00\x23\xff\xff\xff\xff\x0f\x0b\x01a", []int{0, 1, 2, 7, 8, 9})
	layer.TestCutOff(t, "\x00\x41\x05\x0b\x02ab", []int{0, 1, 2, 3, 4, 5})
	layer.TestCutOff(t, "\x00\x41\x85\x80\x80\x80\x00\x0b\x85\x80\x00\x00\x80\xff\x0b\x00", []int{0, 1, 2, 7, 8, 11})
	layer.TestCutOff(t, "\x00\x41\x05\x0b\x80\x01"+mixed[:128], []int{0, 1, 2, 3, 4, 6})
	layer.TestCutOff(t, "\x00\x42\x7f\x0b\x01\x05", []int{0, 1, 2, 3, 4, 5})
	layer.TestCutOff(t, "\x00\x42\x80\x80\x80\x80\x80\x80\x80\x80\x80\x7f\x0b\x00", []int{0, 1, 2, 12, 13})
	// What may not be there is read whole before it is refused.
	one.Refuses(t, "\x00\x20", 2, 2)
	one.Refuses(t, "\x00\x20\x80", 2, 2)
	one.Refuses(t, "\x00\x28\x02", 2, 3)
	one.Refuses(t, "\x00\x0e\x02\x01", 2, 4)
}

// TestNumberThatIsWrong tells of more bytes than follow, or of fewer.
func TestNumberThatIsWrong(t *testing.T) {
	const head = "\x00\x41\x05\x0b"
	one.Refuses(t, head+"\x01", 2, 5)
	one.Refuses(t, head+"\x03ab", 2, 5)
	one.Refuses(t, head+"\x7fab", 2, 5)
	one.Refuses(t, head+"\x83\x00ab", 2, 6)
	one.Refuses(t, head+"\x83\x80\x80\x80\x00ab", 2, 9)
	one.Refuses(t, head+"\x80\x01"+mixed[:127], 2, 6)
	one.Takes(t, head+"\x80\x01"+mixed[:129], data(trial.I32(5), mixed[:128]), 6+128)
	one.Refuses(t, head+"\x80\x80\x04"+mixed[:1<<16-1], 2, 7)
	// Numbers whose lower 8, 16 or 31 bits are those of a right one.
	one.Refuses(t, head+"\x82\x02ab", 2, 6)
	one.Refuses(t, head+"\x82\x80\x04ab", 2, 7)
	one.Refuses(t, head+"\x82\x80\x80\x80\x08ab", 2, 9)
	one.Refuses(t, head+"\xff\xff\xff\xff\x07ab", 2, 9)
	one.Refuses(t, head+"\xff\xff\xff\xff\x0fab", 2, 9)
	// A byte that is left over is the beginning of another segment, or of nothing.
	one.Takes(t, head+"\x01ab", data(trial.I32(5), "a"), 6)
	one.Takes(t, head+"\x00ab", data(trial.I32(5), ""), 5)
	all.Refuses(t, "\x01"+head+"\x01ab", 14, 7)
	all.Refuses(t, "\x02"+head+"\x01ab", 10, 7)
	// One that takes in the next one.
	all.Refuses(t, "\x02"+head+"\x07"+head+"\x02ab", 2, 13)
	all.Takes(t, "\x01"+head+"\x07"+head+"\x02ab", []api.Data{data(trial.I32(5), head+"\x02ab")}, 13)
	all.Refuses(t, "\x02"+head+"\x08"+head+"\x02ab", 2, 6)
}

// TestFirstError has several errors in one segment: what comes first counts.
func TestFirstError(t *testing.T) {
	one.Refuses(t, "\x01\x43", 10, 0)
	one.Refuses(t, "\x02\x06", 10, 0)
	one.Refuses(t, "\x00\x43\x00\x0b\x05", 8, 1)
	one.Refuses(t, "\x00\x06\x00\x0b\x05", 9, 1)
	one.Refuses(t, "\x00\x20\x00\x0c", 12, 1)
	one.Refuses(t, "\x00\x20\x80\x80\x80\x80\x10\x0c", 3, 2)
	one.Refuses(t, "\x00\x41\x80\x80\x80\x80\x08\x0c", 3, 2)
	one.Refuses(t, "\x00\x41\x05\x0c\x05", 12, 3)
	one.Refuses(t, "\x00\x41\x05\x0b\xff\xff\xff\xff\x1f", 3, 4)
	one.Refuses(t, "\x00\x41\x05\x0b\x80\x80\x80\x80\x80\x00", 3, 4)
	one.Refuses(t, "\x00\x0b", 12, 1)
	all.Refuses(t, "\x02\x00\x41\x05\x0b\x05ab\x01", 2, 6)
	all.Refuses(t, "\x02\x00\x41\x05\x0c\x01a\x01", 12, 4)
}

// TestLongerNumbers has numbers with more bytes than they need.
func TestLongerNumbers(t *testing.T) {
	one.Takes(t, "\x00\x41\x85\x80\x80\x80\x00\x0b\x02ab", data(trial.I32(5), "ab"), 11)
	one.Takes(t, "\x00\x23\x85\x00\x0b\x82\x00ab", data(trial.Imported(5), "ab"), 9)
	one.Takes(t, "\x00\x41\x05\x0b\x82\x80\x80\x80\x00ab", data(trial.I32(5), "ab"), 11)
	one.Takes(t, "\x00\x41\x05\x0b\x80\x80\x80\x80\x00", data(trial.I32(5), ""), 9)
}

// TestEveryByteChanged changes the bytes of segments, one at a time, to every value.
func TestEveryByteChanged(t *testing.T) {
	for _, good := range []string{
		"\x00\x41\x05\x0b\x02ab",
		"\x00\x42\xc0\xbb\x78\x0b\x05\xff\xff\xff\xff\x0f",
		"\x00\x23\x80\x01\x0b\x83\x00\x00\x80\x0b",
		"\x00\x41\xff\xff\xff\xff\x07\x0b\x80\x00",
	} {
		layer.TestBytes(t, good)
	}
}

// TestAllShortSegments tries the strings of the bytes that mean something, alone, behind a first byte and an opcode, and behind an Offset.
func TestAllShortSegments(t *testing.T) {
	layer.TestWords(t, "\x00\x01\x02\x0b\x23\x41\x80\xff", 4, "\x00\x41\x05")
	layer.TestWords(t, "\x00\x01\x02\x80\xff", 5, "\x00\x41\x05\x0b")
}

func TestGetAll(t *testing.T) { layer.TestGetAll(t) }

func TestGetAllOfAnotherNumber(t *testing.T) { layer.TestGetAllOfAnotherNumber(t) }

// many are segments that differ from each other.
func many(n int) []api.Data {
	list := make([]api.Data, n)
	for at := range list {
		list[at] = data(api.Instr{Op: "\x41\x42\x23"[at%3], A: uint64(at)}, mixed[at:][:at%5])
	}
	return list
}

// TestMostSegments has 10000 of them and one more.
func TestMostSegments(t *testing.T) { layer.TestMost(t, many(10001)) }

func TestPutAll(t *testing.T) { layer.TestPutAll(t) }

func TestPutAllOfWrongOnes(t *testing.T) { layer.TestPutAllOfWrongOnes(t) }

// P15.2

func TestPiecesOfNone(t *testing.T) { placer(t).TestNone() }

func TestPiecesAtTheEdges(t *testing.T) { placer(t).TestEdges() }

func TestPiecesBeyondTheLargestAddress(t *testing.T) { placer(t).TestSums() }

func TestPiecesInLargeSizes(t *testing.T) { placer(t).TestLargeSizes() }

func TestPiecesOfTakenValues(t *testing.T) { placer(t).TestTaken() }

// TestPiecesOfOtherTypes has also values of types that there are not, of which nothing is promised; they are no i32 either.
func TestPiecesOfOtherTypes(t *testing.T) { placer(t).TestTypes() }

func TestErrorsOfPieces(t *testing.T) { placer(t).TestErrors() }

func TestPiecesOfAllShortLists(t *testing.T) { placer(t).TestShortLists() }

func TestAnyPieces(t *testing.T) { placer(t).TestAnySegments() }

// TestPieces has a piece for each of several segments, in the order of the list, also for one without bytes.
func TestPieces(t *testing.T) {
	taken := []api.Value{{T: 0x7e, N: 1}, {T: 0x7f, N: 3}}
	list := []api.Data{
		data(trial.Imported(1), "xy"),
		data(trial.I32(0), "\xff\x00a"),
		data(trial.I32(2), ""),
		data(trial.I32(4), "x"),
	}
	want := []datas.Piece{{At: 3, Bytes: "xy"}, {At: 0, Bytes: "\xff\x00a"}, {At: 2}, {At: 4, Bytes: "x"}}
	checkPieces(t, list, taken, 5, want, 0)
	checkPieces(t, list, taken, math.MaxUint64, want, 0)
	checkPieces(t, list, taken, 4, nil, 45)
	checkPieces(t, list, taken[:1], 5, nil, 24)
	checkPieces(t, list[:1], taken, 5, want[:1], 0)
	checkPieces(t, list[1:2], taken, 3, want[1:2], 0)
	checkPieces(t, list[1:2], nil, 2, nil, 45)
	checkPieces(t, list[2:3], nil, 2, want[2:3], 0)
	checkPieces(t, list[2:3], nil, 1, nil, 45)
	checkPieces(t, list[3:], nil, 5, want[3:], 0)
	checkPieces(t, list[3:], nil, 4, nil, 45)
	checkPieces(t, list[3:], nil, 0, nil, 45)
}

// TestPiecesAreNotJoined: segments that touch, cover each other or are the same have a piece each.
func TestPiecesAreNotJoined(t *testing.T) {
	list := []api.Data{data(trial.I32(2), "ab"), data(trial.I32(4), "cd"), data(trial.I32(0), "efgh"), data(trial.I32(0), "efgh"), data(trial.I32(6), ""), data(trial.I32(6), "")}
	want := []datas.Piece{{At: 2, Bytes: "ab"}, {At: 4, Bytes: "cd"}, {At: 0, Bytes: "efgh"}, {At: 0, Bytes: "efgh"}, {At: 6}, {At: 6}}
	checkPieces(t, list, nil, 6, want, 0)
	checkPieces(t, list, nil, 5, nil, 45)
}

// TestPiecesOfMany: nobody asks here how many bytes a segment may have, nor how many segments there may be.
func TestPiecesOfMany(t *testing.T) {
	for _, n := range []int{most, most + 1, 2 * most} {
		x := filled(trial.I32(5), n)
		checkPieces(t, []api.Data{x}, nil, uint64(n)+5, []datas.Piece{{At: 5, Bytes: mixed[:n]}}, 0)
		checkPieces(t, []api.Data{x}, nil, uint64(n)+4, nil, 45)
		checkPieces(t, []api.Data{x}, nil, uint64(n), nil, 45)
	}
	var list []api.Data
	var want []datas.Piece
	for at := range 20000 {
		list = append(list, data(trial.I32(uint64(at)), mixed[at:at+1]))
		want = append(want, datas.Piece{At: uint32(at), Bytes: mixed[at : at+1]})
	}
	checkPieces(t, list, nil, 20000, want, 0)
	checkPieces(t, list, nil, 19999, nil, 45)
}

// P15.3

// anyData is one that may be, by chance.
func anyData(next func(n int) int) api.Data {
	offsets := trial.Consts()
	return data(offsets[next(len(offsets))].E, mixed[next(1<<20):][:next(20)])
}

func TestGetInvertsPut(t *testing.T) {
	layer.TestInverse(t)
	layer.ComeBack(t, many(10000))
	layer.ComeBack(t, []api.Data{filled(trial.I32(0), most), data(trial.I32(5), ""), data(trial.Imported(3), mixed[1:most])})
}

// P1

func TestManyBytes(t *testing.T) { layer.TestManyBytes(t) }

// TestAnything writes what comes by chance.
func TestAnything(t *testing.T) {
	next := trial.Chance(7)
	bad := wrong()
	for range 6000 {
		list := make([]api.Data, next(6))
		for at := range list {
			list[at] = anyData(next)
			switch next(8) {
			case 0:
				list[at].Offset.Op = byte(next(256))
			case 1:
				list[at].Offset.B = uint64(next(2))
			case 2:
				list[at] = bad[next(len(bad))].E
			}
			layer.AgreesOn(t, list[at])
		}
		layer.AgreesOnAll(t, list)
	}
}

// TestPiecesOfWrongValues: what Pieces returns for values that are none is unspecified, but it returns, and nothing beside an error.
func TestPiecesOfWrongValues(t *testing.T) {
	sizes := []uint64{0, 1, 6, 1 << 32, 1<<32 + 6, 1 << 63, math.MaxUint64 - 1, math.MaxUint64}
	for _, n := range append(sizes, 1<<33+5, math.MaxUint64-3) {
		for typ := range 256 {
			taken := []api.Value{{T: byte(typ), N: n}}
			for _, size := range sizes {
				for k := range 5 {
					list := []api.Data{data(trial.I32(0), ""), filled(trial.Imported(0), k)}
					pieces, e := datas.Pieces(list, taken, size)
					if e == 0 && len(pieces) != 2 || e != 0 && len(pieces) != 0 {
						t.Errorf("Pieces(%d, %x, %d): %d pieces, %d", k, taken, size, len(pieces), e)
					}
				}
			}
		}
	}
}

// P2

// withRoom are segments, of which the labels of two have room behind them, a list with room behind it, and all that this is.
func withRoom() (list []api.Data, rooms [][]uint32) {
	rooms = [][]uint32{{1, 2, 3}, {4, 5}}
	return []api.Data{
		data(trial.Imported(0), "ab"),
		data(api.Instr{Op: 0x41, A: 7, L: rooms[1][:0]}, "cde"),
		data(trial.I32(0), ""),
		data(api.Instr{Op: 0x0e, L: rooms[0][:2]}, "f"),
		data(trial.I32(9), "ghi"),
	}, rooms
}

// TestArguments looks at bytes, lists, labels and values, and at what is behind them that there is room for.
func TestArguments(t *testing.T) {
	layer.TestArguments(t)
	list, rooms := withRoom()
	wantList, wantRooms := withRoom()
	taken := []api.Value{{T: 0x7f, N: 3}, {T: 0x7e, N: 4}}
	wantTaken := slices.Clone(taken)
	for n := range len(list) + 1 {
		for k := range len(taken) + 1 {
			datas.PutAll(list[:n])
			datas.PutAll(list[n:])
			for _, size := range []uint64{0, 4, 5, 12, 20} {
				datas.Pieces(list[:n], taken[:k], size)
				datas.Pieces(list[n:], taken[:k], size)
			}
		}
	}
	for _, x := range list {
		datas.Right(x)
		datas.Put(x)
	}
	if !slices.EqualFunc(list, wantList, trial.SameData) || !slices.EqualFunc(rooms, wantRooms, slices.Equal[[]uint32]) || !slices.Equal(taken, wantTaken) {
		t.Errorf("the list is %+v, the labels are %d, the values %x", list, rooms, taken)
	}
}

// TestKept spoils what was handed in: the results stay, and the next ones are those of what it is then.
func TestKept(t *testing.T) {
	layer.TestKept(t)
	list := []api.Data{data(trial.Imported(1), "ab"), data(trial.I32(0), "c")}
	taken := []api.Value{{T: 0x7e}, {T: 0x7f, N: 3}}
	put, _ := datas.PutAll(list)
	pieces, _ := datas.Pieces(list, taken, 10)
	list[0] = data(trial.Imported(1), "xyz")
	list[1].Offset.A, list[1].Bytes = 2, ""
	taken[1].N = 5
	if string(put) != "\x02\x00\x23\x01\x0b\x02ab\x00\x41\x00\x0b\x01c" {
		t.Errorf("PutAll: % x", put)
	}
	if !slices.Equal(pieces, []datas.Piece{{At: 3, Bytes: "ab"}, {At: 0, Bytes: "c"}}) {
		t.Errorf("Pieces: %v", pieces)
	}
	layer.WritesAll(t, list, "\x02\x00\x23\x01\x0b\x03xyz\x00\x41\x02\x0b\x00", 0)
	checkPieces(t, list, taken, 10, []datas.Piece{{At: 5, Bytes: "xyz"}, {At: 2}}, 0)
}

// TestNew spoils results: neither the arguments nor the results of other calls change.
func TestNew(t *testing.T) {
	layer.TestNew(t)
	list := []api.Data{data(trial.Imported(1), "ab"), data(trial.I32(0), "c"), data(trial.I32(5), "")}
	taken := []api.Value{{T: 0x7e}, {T: 0x7f, N: 3}}
	want := []datas.Piece{{At: 3, Bytes: "ab"}, {At: 0, Bytes: "c"}, {At: 5}}
	for range 2 {
		for n := range 4 {
			first, _ := datas.Pieces(list[:n], taken, 5)
			second, _ := datas.Pieces(list[:n], taken, 5)
			trial.Spoil(first, datas.Piece{At: 77, Bytes: "spoilt"})
			if !slices.Equal(second, want[:n]) {
				t.Errorf("Pieces: %v", second)
			}
			checkPieces(t, list[:n], taken, 5, want[:n], 0)
		}
	}
	if !slices.EqualFunc(list, []api.Data{data(trial.Imported(1), "ab"), data(trial.I32(0), "c"), data(trial.I32(5), "")}, trial.SameData) || !slices.Equal(taken, []api.Value{{T: 0x7e}, {T: 0x7f, N: 3}}) {
		t.Errorf("the list is %+v, the values are %x", list, taken)
	}
}

// TestScannersGoOn: what was read stays when the bytes that it was read of change, and a scanner goes on with those that it was made of.
func TestScannersGoOn(t *testing.T) {
	b := []byte("\x00\x41\x05\x0b\x02ab\x00\x23\x01\x0b\x03cde")
	s := scan.Over(b)
	first := datas.Get(s)
	trial.Spoil(b, 0xee)
	second := datas.Get(s)
	if !trial.SameData(first, data(trial.I32(5), "ab")) || !trial.SameData(second, data(trial.Imported(1), "cde")) || !s.Done() {
		t.Errorf("Get: %+v, %+v, At %d", first, second, s.At())
	}
	if stop := abort.Out(func() { datas.Get(s) }); stop != (abort.Stop{Why: 2, At: 15}) {
		t.Errorf("Get of nothing: %v", stop)
	}
}

// TestCalls has calls with errors in between, also of Pieces.
func TestCalls(t *testing.T) {
	layer.TestCalls(t)
	good := []api.Data{data(trial.I32(3), "ab")}
	for _, bad := range wrong() {
		datas.Pieces([]api.Data{good[0], bad.E}, nil, 5)
		checkPieces(t, good, nil, 5, []datas.Piece{{At: 3, Bytes: "ab"}}, 0)
		checkPieces(t, good, nil, 4, nil, 45)
	}
}
