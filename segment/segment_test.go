package segment_test

import (
	"math"
	"testing"

	"creel/api"
	"creel/segment"
	"creel/trial"
)

func checkHead(t *testing.T, offset api.Instr, want string, e api.Errno) {
	t.Helper()
	if got, gotE := segment.Head(offset); string(got) != want || gotE != e {
		t.Errorf("Head(%x %x): % x, %d, want % x, %d", offset.Op, offset.A, got, gotE, want, e)
	}
}

func checkPlace(t *testing.T, offset api.Instr, taken []api.Value, n int, size uint64, want uint32, e api.Errno) {
	t.Helper()
	if got, gotE := segment.Place(offset, taken, n, size); got != want || gotE != e {
		t.Errorf("Place(%x %x, %x, %d, %d): %d, %d, want %d, %d", offset.Op, offset.A, taken, n, size, got, gotE, want, e)
	}
}

// head reads the beginning of a segment.
var head = trial.Reader[api.Instr]{
	Name:  "GetHead",
	Read:  segment.GetHead,
	Model: (*trial.Model).Head,
	Same:  trial.SameInstr,
	Tell:  func(i api.Instr) any { return i },
}

func TestHead(t *testing.T) {
	checkHead(t, trial.I32(5), "\x00\x41\x05\x0b", 0)
	for _, x := range trial.Consts() {
		checkHead(t, x.E, "\x00"+x.B, 0)
		head.Takes(t, "\x00"+x.B+"\x0b", x.E, 1+len(x.B))
		for n := range len(x.B) {
			head.Agrees(t, "\x00"+x.B[:n])
		}
	}
	for _, x := range trial.WrongConsts() {
		checkHead(t, x.E, "", x.Why)
	}
}

func TestBrokenHead(t *testing.T) {
	head.Refuses(t, "", 2, 0)
	head.Refuses(t, "\x00", 2, 1)
	head.Refuses(t, "\x01\x41\x05\x0b", 10, 0)
	for _, x := range trial.BrokenHeads() {
		head.Refuses(t, x.B+"\x0b", x.Why, x.At)
	}
}

func TestHeadIsNew(t *testing.T) {
	first, _ := segment.Head(trial.I32(5))
	trial.Spoil(first, 0xee)
	checkHead(t, trial.I32(5), "\x00\x41\x05\x0b", 0)
}

// placer checks one segment after the other, up to the first error.
func placer(t *testing.T) trial.Placer {
	return func(list []trial.Segment, taken []api.Value, size uint64, starts []uint32, e api.Errno) {
		t.Helper()
		for at, x := range list {
			got, why := segment.Place(x.Offset, taken, x.N, size)
			if why != 0 {
				if got != 0 || why != e {
					t.Errorf("Place(%x %x, %x, %d, %d): %d, %d, want %d", x.Offset.Op, x.Offset.A, taken, x.N, size, got, why, e)
				}
				return
			}
			if e == 0 && got != starts[at] {
				t.Errorf("Place(%x %x, %x, %d, %d): %d, want %d", x.Offset.Op, x.Offset.A, taken, x.N, size, got, starts[at])
			}
		}
		if e != 0 {
			t.Errorf("%d places, want %d", len(list), e)
		}
	}
}

func TestPlace(t *testing.T) {
	placer(t).TestNone()
	placer(t).TestEdges()
	placer(t).TestSums()
	placer(t).TestLargeSizes()
	placer(t).TestTaken()
	placer(t).TestTypes()
	placer(t).TestErrors()
	placer(t).TestShortLists()
	placer(t).TestAnySegments()
}

// TestPlaceOfLargeSums has sums that have more than 64 bits, and many things in sizes that have more than 32.
func TestPlaceOfLargeSums(t *testing.T) {
	for _, size := range []uint64{1 << 32, 1 << 33, math.MaxUint64} {
		checkPlace(t, trial.I32(0), nil, 1<<22, size, 0, 0)
		checkPlace(t, trial.I32(5), nil, math.MaxInt32, size, 5, 0)
	}
	for n := range 4 {
		taken := []api.Value{{T: 0x7f, N: math.MaxUint64 - uint64(n)}}
		checkPlace(t, trial.Imported(0), taken, n+1, math.MaxUint64, 0, 45)
		checkPlace(t, trial.Imported(0), taken, n+1, 10, 0, 45)
		checkPlace(t, trial.Imported(0), taken, 0, 10, 0, 45)
	}
}
