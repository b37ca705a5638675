package dylink_test

import (
	"math"
	"slices"
	"strconv"
	"strings"
	"testing"

	"creel/abort"
	"creel/api"
	"creel/dylink"
	"creel/scan"
	"creel/trial"
)

// The model is written from the chapters with numbers of its own, and asks no layer; most of it stands in package trial.

// modelError is the one that P16.2 has.
func modelError(d api.Dylink) api.Errno {
	if e := trial.DylinkError(d); e != 0 || d.Has {
		return e
	}
	return 15
}

// What the tests are made of.

// data needs memory, table, and modules.
func data(memSize, memAlign, tableSize, tableAlign uint32, needed ...string) api.Dylink {
	return api.Dylink{Has: true, MemSize: memSize, MemAlign: memAlign, TableSize: tableSize, TableAlign: tableAlign, Needed: needed}
}

// needs needs modules alone.
func needs(needed ...string) api.Dylink { return data(0, 0, 0, 0, needed...) }

// info is the first subsection with these contents, and list the second one.
func info(contents string) string { return "\x01" + trial.Sized(contents) }
func list(contents string) string { return "\x02" + trial.Sized(contents) }

// none is the chapter's example: what needs nothing.
const none = "\x01\x04\x00\x00\x00\x00"

// begin is where the contents of a second subsection begin, behind the shortest first one.
func begin(contents string) int { return len(none) + 1 + len(trial.Uint(len(contents))) }

// numbered are so many names, which differ.
func numbered(n int) []string {
	some := make([]string, n)
	for at := range some {
		some[at] = "m" + strconv.Itoa(at)
	}
	return some
}

// sized are names, which differ, of so many bytes each.
func sized(sizes ...int) []string {
	some := make([]string, len(sizes))
	for at, n := range sizes {
		some[at] = strconv.Itoa(1000 + at)[1:] + strings.Repeat("n", n-3)
	}
	return some
}

// with is a list with another name at a place.
func with(some []string, at int, name string) []string {
	some = slices.Clone(some)
	some[at] = name
	return some
}

// edges are numbers at the edges of each length of their encoding, and these.
func edges() []trial.Sample[uint32] {
	return []trial.Sample[uint32]{
		{E: 0, B: "\x00"}, {E: 1, B: "\x01"}, {E: 127, B: "\x7f"},
		{E: 128, B: "\x80\x01"}, {E: 300, B: "\xac\x02"}, {E: 1<<14 - 1, B: "\xff\x7f"},
		{E: 1 << 14, B: "\x80\x80\x01"}, {E: 1 << 16, B: "\x80\x80\x04"}, {E: 1<<21 - 1, B: "\xff\xff\x7f"},
		{E: 1 << 21, B: "\x80\x80\x80\x01"}, {E: 1<<28 - 1, B: "\xff\xff\xff\x7f"},
		{E: 1 << 28, B: "\x80\x80\x80\x80\x01"}, {E: 1 << 31, B: "\x80\x80\x80\x80\x08"}, {E: math.MaxUint32, B: "\xff\xff\xff\xff\x0f"},
	}
}

// samples has the chapter's example ahead; then fields that differ, and names of none, one and more bytes.
func samples() []trial.Sample[api.Dylink] {
	long := strings.Repeat("n", 200)
	return []trial.Sample[api.Dylink]{
		{E: data(0, 0, 0, 0), B: none},
		{E: data(1, 2, 3, 4), B: "\x01\x04\x01\x02\x03\x04"},
		{E: data(300, 20, 128, 20), B: "\x01\x06\xac\x02\x14\x80\x01\x14"},
		{E: data(math.MaxUint32, 0, math.MaxUint32, 0), B: "\x01\x0c\xff\xff\xff\xff\x0f\x00\xff\xff\xff\xff\x0f\x00"},
		{E: needs(""), B: none + "\x02\x02\x01\x00"},
		{E: needs("a"), B: none + "\x02\x03\x01\x01a"},
		{E: data(300, 0, 0, 0, "libc"), B: "\x01\x05\xac\x02\x00\x00\x00\x02\x06\x01\x04libc"},
		{E: data(5, 4, 3, 2, "bc", "", "a"), B: "\x01\x04\x05\x04\x03\x02\x02\x07\x03\x02bc\x00\x01a"},
		{E: needs("\u20ac", "\x00", "\x01", "\x02\x00"), B: none + "\x02\x0c\x04\x03\xe2\x82\xac\x01\x00\x01\x01\x02\x02\x00"},
		{E: needs(long[:127]), B: none + "\x02\x81\x01\x01\x7f" + long[:127]},
		{E: needs("a", long), B: none + "\x02\xcd\x01\x02\x01a\xc8\x01" + long},
		{E: needs(long, long[1:], long[2:]), B: none + "\x02\xdc\x04\x03\xc8\x01" + long + "\xc7\x01" + long[1:] + "\xc6\x01" + long[2:]},
	}
}

// wrong is what may not be, with one error and with several.
func wrong() []trial.Bad[api.Dylink] {
	long := strings.Repeat("n", 201)
	return []trial.Bad[api.Dylink]{
		{E: api.Dylink{MemSize: 1}, Why: 15},
		{E: api.Dylink{MemAlign: 1}, Why: 15},
		{E: api.Dylink{TableSize: 1}, Why: 15},
		{E: api.Dylink{TableAlign: 1}, Why: 15},
		{E: api.Dylink{Needed: []string{""}}, Why: 15},
		{E: data(0, 21, 0, 0), Why: 25},
		{E: data(0, 0, 0, 21), Why: 25},
		{E: data(0, 21, 0, 21), Why: 25},
		{E: needs(numbered(201)...), Why: 29},
		{E: needs(long), Why: 13},
		{E: needs("\xff"), Why: 4},
		{E: needs("a", "a"), Why: 27},
	}
}

// Checks.

// told is what of d is worth telling.
type told struct {
	d     api.Dylink
	count int
}

// tell is d with few of its names, and short ones, and how many there are.
func tell(d api.Dylink) told {
	count := len(d.Needed)
	d.Needed = slices.Clone(d.Needed[:min(count, 3)])
	for at := range d.Needed {
		d.Needed[at] = trial.Short(d.Needed[at])
	}
	return told{d, count}
}

// read is the reader.
var read = trial.Reader[api.Dylink]{
	Name:  "Read",
	Read:  dylink.Read,
	Model: (*trial.Model).Dylink,
	Same:  trial.SameDylink,
	Tell:  func(d api.Dylink) any { return tell(d) },
}

// try reads, and returns the error with which that aborts.
func try(s *scan.Scanner) (api.Dylink, abort.Stop) {
	return abort.Value(func() api.Dylink { return dylink.Read(s) })
}

// takes checks that bytes are all read, and as what.
func takes(t *testing.T, b string, want api.Dylink) {
	t.Helper()
	read.Takes(t, b, want, len(b))
}

// judges checks the error of Right, and that Put has the same, and no bytes beside it.
func judges(t *testing.T, d api.Dylink, want api.Errno) {
	t.Helper()
	if got := dylink.Right(d); got != want {
		t.Errorf("Right(%+v): %d, want %d", tell(d), got, want)
	}
	if want == 0 && !d.Has {
		want = 15
	}
	b, e := dylink.Put(d)
	if e != want {
		t.Errorf("Put(%+v): %d, want %d", tell(d), e, want)
	}
	if e != 0 && len(b) != 0 {
		t.Errorf("Put(%+v): % x beside an error", tell(d), trial.Short(b))
	}
}

// writes checks the bytes of what may be.
func writes(t *testing.T, d api.Dylink, want string) {
	t.Helper()
	judges(t, d, 0)
	if b, _ := dylink.Put(d); string(b) != want {
		t.Errorf("Put(%+v): % x (%d bytes), want % x (%d bytes)", tell(d), trial.Short(b), len(b), trial.Short(want), len(want))
	}
}

// agrees checks that d has the error, or the bytes, that the model says.
func agrees(t *testing.T, d api.Dylink) {
	t.Helper()
	judges(t, d, trial.DylinkError(d))
	if modelError(d) == 0 {
		writes(t, d, trial.DylinkBytes(d))
	}
}

// comesBack checks that d is read as it was written, and that nothing is left.
func comesBack(t *testing.T, d api.Dylink) {
	t.Helper()
	b, e := dylink.Put(d)
	if e != 0 {
		t.Errorf("Put(%+v): %d", tell(d), e)
	}
	takes(t, string(b), d)
}

// P16.1

func TestConstants(t *testing.T) {
	if dylink.Name != "dylink.0" || dylink.MemInfo != 1 || dylink.Needed != 2 || dylink.MaxAlign != 20 {
		t.Errorf("%q, %d, %d, %d", dylink.Name, dylink.MemInfo, dylink.Needed, dylink.MaxAlign)
	}
}

// TestNoData: without Has, nothing else may be told. A list that is empty tells nothing.
func TestNoData(t *testing.T) {
	judges(t, api.Dylink{}, 0)
	judges(t, api.Dylink{Needed: []string{}}, 0)
	judges(t, api.Dylink{Needed: numbered(3)[:0]}, 0)
	for _, x := range edges()[1:] {
		judges(t, api.Dylink{MemSize: x.E}, 15)
		judges(t, api.Dylink{MemAlign: x.E}, 15)
		judges(t, api.Dylink{TableSize: x.E}, 15)
		judges(t, api.Dylink{TableAlign: x.E}, 15)
	}
	for _, names := range [][]string{{""}, {"a"}, {"a", "b"}, {"\xff"}, {"a", "a"}, numbered(200), numbered(201)} {
		judges(t, api.Dylink{Needed: names}, 15)
	}
	// Two fields together, whose sum is 0.
	judges(t, api.Dylink{MemSize: 1, TableSize: math.MaxUint32}, 15)
	judges(t, api.Dylink{MemAlign: 1 << 31, TableAlign: 1 << 31}, 15)
	for _, x := range wrong() {
		x.E.Has = false
		judges(t, x.E, 15)
	}
}

// TestAlignments has 20 and one more, each one and both, and much larger ones, of which some have small lower bits.
func TestAlignments(t *testing.T) {
	list := []uint32{0, 1, 19, 20, 21, 22, 127, 128, 255, 256, 256 + 20, 1<<16 + 1, 1 << 31, 1<<31 + 20, math.MaxUint32}
	for _, mem := range list {
		for _, table := range list {
			want := api.Errno(0)
			if mem > 20 || table > 20 {
				want = 25
			}
			judges(t, data(0, mem, 0, table), want)
			judges(t, data(math.MaxUint32, mem, 5, table, "a", ""), want)
		}
	}
	// The sizes have no limit.
	for _, x := range edges() {
		for _, y := range edges() {
			judges(t, data(x.E, 20, y.E, 20), 0)
		}
	}
}

// TestNumberOfNames has 200 and one more.
func TestNumberOfNames(t *testing.T) {
	for _, n := range []int{0, 1, 2, 3, 127, 128, 199, 200} {
		judges(t, needs(numbered(n)...), 0)
	}
	for _, n := range []int{201, 202, 256, 400, 10000, 10001, 65536} {
		judges(t, needs(numbered(n)...), 29)
	}
	judges(t, api.Dylink{Has: true, Needed: []string{}}, 0)
}

// TestNames has names that may be and such that may not, alone and at every place of a list.
func TestNames(t *testing.T) {
	for _, x := range trial.Names() {
		judges(t, needs(x.S), x.Why)
		for at := range 5 {
			judges(t, needs(with(numbered(5), at, x.S)...), x.Why)
		}
		for _, at := range []int{0, 1, 100, 198, 199} {
			judges(t, needs(with(numbered(200), at, x.S)...), x.Why)
		}
	}
}

// TestEqualNames has them side by side, far apart, and first and last.
func TestEqualNames(t *testing.T) {
	for _, name := range []string{"", "a", "\u20ac", strings.Repeat("n", 200)} {
		judges(t, needs(name, name), 27)
		judges(t, needs(name, name, name), 27)
		judges(t, needs(name), 0)
		for first := range 20 {
			for second := first + 1; second < 20; second++ {
				judges(t, needs(with(with(numbered(20), first, name), second, name)...), 27)
			}
		}
		for _, pair := range [][2]int{{0, 1}, {0, 100}, {0, 199}, {1, 199}, {99, 100}, {198, 199}} {
			judges(t, needs(with(with(numbered(200), pair[0], name), pair[1], name)...), 27)
		}
	}
	// Nearly equal ones are not.
	long := strings.Repeat("n", 200)
	judges(t, needs("a", "A", "a ", " a", "a\x00", "", "\x00", "aa", "\u00e1"), 0)
	judges(t, needs(long, long[:199], long[:199]+"m", "m"+long[:199]), 0)
}

// TestFirstErrorOfRight has two errors and more: the alignments count ahead of the number of names, that ahead of the names, and these in their order.
func TestFirstErrorOfRight(t *testing.T) {
	long := strings.Repeat("n", 201)
	for _, wrong := range [][]string{numbered(201), {"\xff"}, {long}, {"a", "a"}, with(numbered(201), 0, "\xff")} {
		judges(t, data(0, 21, 0, 0, wrong...), 25)
		judges(t, data(0, 0, 0, 21, wrong...), 25)
		judges(t, data(0, 21, 0, 21, wrong...), 25)
	}
	for _, name := range []string{"\xff", long, "m0", "m200"} {
		for _, at := range []int{1, 100, 199} {
			judges(t, needs(with(numbered(201), at, name)...), 29)
		}
	}
	judges(t, needs(with(numbered(201), 200, "\xff")...), 29)
	judges(t, needs("\xff", long), 4)
	judges(t, needs(long, "\xff"), 13)
	judges(t, needs("a", "\xff", long, "a"), 4)
	judges(t, needs("a", long, "\xff", "a"), 13)
	judges(t, needs("a", "a", "\xff", long), 27)
	judges(t, needs("a", "b", "\xff", "a"), 4)
	judges(t, needs("a", "b", "a", "\xff"), 27)
	judges(t, needs("a", "b", "a", long), 27)
	// A name that may not be is told as such, also where it comes twice.
	judges(t, needs("\xff", "\xff"), 4)
	judges(t, needs(long, long), 13)
	judges(t, needs("\xff", "a", "a"), 4)
	judges(t, needs(long, "a", "a"), 13)
}

// TestListsOfNames has all lists of up to five of some names.
func TestListsOfNames(t *testing.T) {
	some := []string{"", "a", "b", "\xff", strings.Repeat("n", 201)}
	for n := range 6 {
		trial.Words(some, n, func(names []string) {
			d := needs(names...)
			agrees(t, d)
			d.MemAlign = 21
			agrees(t, d)
			d.Has = false
			agrees(t, d)
		})
	}
}

// P16.2

// TestExample is the chapter's.
func TestExample(t *testing.T) {
	writes(t, api.Dylink{Has: true}, "\x01\x04\x00\x00\x00\x00")
	takes(t, "\x01\x04\x00\x00\x00\x00", api.Dylink{Has: true})
}

func TestPut(t *testing.T) {
	for _, x := range samples() {
		writes(t, x.E, x.B)
		agrees(t, x.E)
	}
	for _, x := range wrong() {
		judges(t, x.E, x.Why)
		agrees(t, x.E)
	}
	writes(t, api.Dylink{Has: true, MemSize: 1, Needed: []string{}}, "\x01\x04\x01\x00\x00\x00")
}

// TestFields has each field at the edges of each length of its encoding, as far as it goes, with each of the others.
func TestFields(t *testing.T) {
	aligns := []trial.Sample[uint32]{{E: 0, B: "\x00"}, {E: 1, B: "\x01"}, {E: 20, B: "\x14"}}
	for _, size := range edges() {
		for _, align := range aligns {
			for _, slots := range edges() {
				for _, step := range aligns {
					d := data(size.E, align.E, slots.E, step.E)
					b := info(size.B + align.B + slots.B + step.B)
					writes(t, d, b)
					takes(t, b, d)
				}
			}
		}
	}
}

// TestNumbersOfNames has lists whose number takes one byte and more.
func TestNumbersOfNames(t *testing.T) {
	for _, x := range []trial.Sample[int]{{E: 1, B: "\x01"}, {E: 2, B: "\x02"}, {E: 127, B: "\x7f"}, {E: 128, B: "\x80\x01"}, {E: 199, B: "\xc7\x01"}, {E: 200, B: "\xc8\x01"}} {
		d, names := needs(numbered(x.E)...), ""
		for _, name := range d.Needed {
			names += trial.Sized(name)
		}
		writes(t, d, none+list(x.B+names))
		takes(t, none+list(x.B+names), d)
		// A list may begin with the name of no bytes, and have one at each other place.
		for _, at := range []int{0, x.E / 2, x.E - 1} {
			agrees(t, needs(with(numbered(x.E), at, "")...))
			comesBack(t, needs(with(numbered(x.E), at, "")...))
		}
	}
}

// TestSizesOfNames has each number of bytes that a name may have, alone and behind another name.
func TestSizesOfNames(t *testing.T) {
	long := strings.Repeat("n", 200)
	for n := range 201 {
		size := string([]byte{byte(n)})
		if n >= 128 {
			size = string([]byte{byte(n), 1})
		}
		for _, x := range []trial.Sample[api.Dylink]{
			{E: needs(long[:n]), B: none + list("\x01"+size+long[:n])},
			{E: needs("a", long[:n], "b"), B: none + list("\x03\x01a"+size+long[:n]+"\x01b")},
		} {
			writes(t, x.E, x.B)
			takes(t, x.B, x.E)
		}
	}
}

// TestSizesOfContents has contents at the edges of each length of the encoding of their size.
func TestSizesOfContents(t *testing.T) {
	for _, x := range []struct {
		names []string
		size  string
	}{
		{sized(100), "\x66"},
		{sized(60, 62), "\x7d"},
		{sized(60, 63), "\x7e"},
		{sized(60, 64), "\x7f"},
		{sized(60, 65), "\x80\x01"},
		{sized(60, 66), "\x81\x01"},
		{sized(slices.Repeat([]int{127}, 127)...), "\x81\x7f"},
		{sized(append(slices.Repeat([]int{127}, 126), 200, 48)...), "\xfd\x7f"},
		{sized(append(slices.Repeat([]int{127}, 126), 200, 49)...), "\xfe\x7f"},
		{sized(append(slices.Repeat([]int{127}, 126), 200, 50)...), "\xff\x7f"},
		{sized(append(slices.Repeat([]int{127}, 126), 200, 51)...), "\x80\x80\x01"},
		{sized(append(slices.Repeat([]int{127}, 126), 200, 52)...), "\x81\x80\x01"},
		{sized(slices.Repeat([]int{200}, 200)...), "\xd2\xbb\x02"},
	} {
		d := needs(x.names...)
		b := none + "\x02" + x.size + trial.NeededBytes(x.names)
		writes(t, d, b)
		takes(t, b, d)
	}
}

// P16.3

func TestRead(t *testing.T) {
	for _, x := range samples() {
		takes(t, x.B, x.E)
		read.Agrees(t, x.B)
	}
	// No bytes are no data, wherever the reader stands.
	read.Refuses(t, "", 15, 0)
}

// TestCutOff cuts encodings off at every place: the error is at the beginning of what is not whole.
func TestCutOff(t *testing.T) {
	for _, x := range samples() {
		for n := range len(x.B) {
			read.Agrees(t, x.B[:n])
		}
	}
	long := strings.Repeat("n", 200)
	for _, x := range []struct {
		b     string
		whole int   // where the first subsection ends
		parts []int // where the number of each subsection begins, its size, and its contents
	}{
		{"\x01\x05\xac\x02\x00\x00\x00\x02\x07\x02\x04libc\x00", 7, []int{0, 1, 2, 7, 8, 9}},
		{"\x01\x84\x80\x80\x00\x00\x00\x00\x00\x02\x83\x80\x00\x01\x01a", 9, []int{0, 1, 5, 9, 10, 13}},
		{none + "\x02\xcb\x01\x01\xc8\x01" + long, 6, []int{0, 1, 2, 6, 7, 9}},
	} {
		for n := range len(x.b) {
			at := 0
			for _, from := range x.parts {
				if from <= n {
					at = from
				}
			}
			switch n {
			case 0:
				read.Refuses(t, "", 15, 0)
			case x.whole:
				takes(t, x.b[:n], trial.NewModel(x.b[:n]).Dylink())
			default:
				read.Refuses(t, x.b[:n], 2, at)
			}
		}
		takes(t, x.b, trial.NewModel(x.b).Dylink())
	}
}

// TestNumbers has every first byte, every one of a second subsection, and every one of a third.
func TestNumbers(t *testing.T) {
	for n := range 256 {
		number := string([]byte{byte(n)})
		for _, more := range []string{"", none[1:], "\x03\x01\x01a", "\x00", "\x00" + none, "\xff\xff\xff\xff\xff\xff"} {
			if n != 1 {
				read.Refuses(t, number+more, 15, 0)
			}
			if n != 2 {
				read.Refuses(t, none+number+more, 15, 6)
			}
			read.Refuses(t, none+"\x02\x03\x01\x01a"+number+more, 15, 11)
		}
		read.Agrees(t, number+none[1:])
		read.Agrees(t, none+number+"\x03\x01\x01a")
	}
	// A number is a byte, and not one of several.
	read.Refuses(t, "\x81\x00\x04\x00\x00\x00\x00", 15, 0)
	read.Refuses(t, none+"\x82\x00\x03\x01\x01a", 15, 6)
	// Needed ahead of MemInfo and alone, either of them twice, and each a third time.
	read.Refuses(t, "\x02\x03\x01\x01a", 15, 0)
	read.Refuses(t, "\x02\x03\x01\x01a"+none, 15, 0)
	read.Refuses(t, none+none, 15, 6)
	read.Refuses(t, none+none+"\x02\x03\x01\x01a", 15, 6)
	read.Refuses(t, none+"\x02\x03\x01\x01a\x02\x03\x01\x01b", 15, 11)
	read.Refuses(t, none+"\x02\x03\x01\x01a"+none, 15, 11)
}

// TestLengths has lengths that are larger than what follows, and smaller and larger than the contents.
func TestLengths(t *testing.T) {
	// Larger than what follows.
	read.Refuses(t, "\x01\x05\x00\x00\x00\x00", 2, 2)
	read.Refuses(t, "\x01\x01", 2, 2)
	read.Refuses(t, "\x01\x7f\x00\x00\x00\x00", 2, 2)
	read.Refuses(t, "\x01\x85\x00\x00\x00\x00\x00", 2, 3)
	read.Refuses(t, "\x01\x84\x02\x00\x00\x00\x00", 2, 3)              // 260
	read.Refuses(t, "\x01\x84\x80\x04\x00\x00\x00\x00", 2, 4)          // 2^16 + 4
	read.Refuses(t, "\x01\x84\x80\x80\x80\x08\x00\x00\x00\x00", 2, 6)  // 2^31 + 4
	read.Refuses(t, "\x01\xff\xff\xff\xff\x0f\x00\x00\x00\x00", 2, 6)  // 2^32 - 1
	read.Refuses(t, none+"\x02\x04\x01\x01a", 2, 8)                    // one more
	read.Refuses(t, none+"\x02\x83\x02\x01\x01a", 2, 9)                // 259
	read.Refuses(t, none+"\x02\xff\xff\xff\xff\x0f\x01\x01a", 2, 12)   // 2^32 - 1
	read.Refuses(t, none+"\x02\x01", 2, 8)                             // nothing follows
	read.Refuses(t, "\x01\xff\x01"+none[2:]+"\x02\x03\x01\x01a", 2, 3) // what is behind it is not enough
	read.Refuses(t, "\x01\x05\x80\x80\x80\x80", 2, 2)                  // and counts ahead of what is wrong within
	read.Refuses(t, none+"\x02\x7f\x91\x4e", 2, 8)                     // likewise
	read.Refuses(t, "\x01\x0a"+none[2:]+"\x02\x03\x01\x01", 2, 2)      // which would be of a second one
	// Smaller than the contents: a field, or a name, is cut off.
	read.Refuses(t, "\x01\x00\x00\x00\x00\x00", 2, 2)
	read.Refuses(t, "\x01\x01\x00\x00\x00\x00", 2, 3)
	read.Refuses(t, "\x01\x02\x00\x00\x00\x00", 2, 4)
	read.Refuses(t, "\x01\x03\x00\x00\x00\x00", 2, 5)
	read.Refuses(t, "\x01\x04\x00\x00\x00\x80\x00", 2, 5)
	read.Refuses(t, "\x01\x05\xac\x02\x00\x00\x80\x01", 2, 6)
	read.Refuses(t, none+"\x02\x00\x01\x01a", 2, 8)
	read.Refuses(t, none+"\x02\x01\x01\x01a", 2, 9)
	read.Refuses(t, none+"\x02\x02\x01\x01a", 2, 10)
	read.Refuses(t, none+"\x02\x03\x02\x01a", 2, 11)
	read.Refuses(t, none+"\x02\x05\x02\x01a\x02bc", 2, 12)
	// Larger: bytes of the contents are left, and what is behind the contents is read as if it were of them.
	read.Refuses(t, "\x01\x05\x00\x00\x00\x00\x02\x03\x01\x01a", 14, 6)
	read.Refuses(t, "\x01\x09\x00\x00\x00\x00\x02\x03\x01\x01a", 14, 6)
	read.Refuses(t, none+"\x02\x04\x01\x01a\x02", 14, 11)
	read.Refuses(t, none+"\x02\x06\x01\x01a\x02\x00\x00", 14, 11)
	// Smaller, where the fields are whole: the rest is another subsection.
	read.Refuses(t, "\x01\x04\x00\x00\x00\x00\x00\x02\x02\x01\x00", 15, 6)
	read.Refuses(t, none+"\x02\x03\x01\x01ab", 15, 11)
}

// TestEveryLength has all small lengths for the same bytes.
func TestEveryLength(t *testing.T) {
	for n := range 300 {
		for _, more := range []string{"\x00\x00\x00\x00", "\x05\xac\x02\x03\x04\x02\x03\x01\x01a", strings.Repeat("\x00", 299)} {
			read.Agrees(t, "\x01"+trial.Uint(n)+more)
		}
		for _, more := range []string{"\x01\x01a", "\x02\x01a\x02bc\x02\x01\x01", "\x03\x00\x01a\x01b" + none, "\xa0\x02" + strings.Repeat("\x00", 290)} {
			read.Agrees(t, none+"\x02"+trial.Uint(n)+more)
		}
	}
}

// TestBrokenNumbers has numbers that are too long or too large as lengths, as fields, as the number of names, and as sizes of names.
func TestBrokenNumbers(t *testing.T) {
	for _, x := range trial.BrokenNumbers("\x01", none+"\x02", "\x01\x05\x05\x03\xac\x02\x07\x02") {
		for _, more := range []string{"", "\x00\x00\x00\x00", "\xff\xff"} {
			read.Refuses(t, x.B+more, x.Why, x.At)
		}
	}
	for _, x := range trial.BrokenNumbers("", "\x05", "\x05\x80\x01", "\x05\x00\x06") {
		for _, more := range []string{"", "\x00\x00\x00\x00", "\xff\xff"} {
			read.Refuses(t, info(x.B+more), x.Why, 2+x.At)
			read.Refuses(t, info(x.B+more)+"\x02\x03\x01\x01a", x.Why, 2+x.At)
			read.Refuses(t, info(x.B+more)+"\x07", x.Why, 2+x.At)
		}
	}
	for _, x := range trial.BrokenNumbers("", "\x01", "\x02\x01a", "\x03\x01a\x00") {
		for _, more := range []string{"", "\x00\x00\x00\x00", "\xff\xff"} {
			read.Refuses(t, none+list(x.B+more), x.Why, 8+x.At)
			read.Refuses(t, none+list(x.B+more)+"\x07", x.Why, 8+x.At)
		}
	}
	// Each field that is not whole within the length.
	for _, lead := range []string{"", "\x05", "\x05\x80\x01", "\x05\x00\x06"} {
		for _, b := range []string{"\x80", "\xff\xff\xff\xff"} {
			read.Refuses(t, info(lead+b), 2, 2+len(lead))
			read.Refuses(t, info(lead+b)+"\x00\x00", 2, 2+len(lead))
		}
	}
}

// TestLongerNumbers has numbers with more bytes than they need.
func TestLongerNumbers(t *testing.T) {
	takes(t, "\x01\x84\x00\x01\x02\x03\x04", data(1, 2, 3, 4))
	takes(t, "\x01\x84\x80\x80\x80\x00\x01\x02\x03\x04", data(1, 2, 3, 4))
	takes(t, info("\x85\x80\x80\x80\x00\x82\x00\x83\x80\x00\x84\x80\x80\x00"), data(5, 2, 3, 4))
	takes(t, none+list("\x81\x80\x80\x80\x00\x82\x00ab"), needs("ab"))
	takes(t, none+"\x02\x83\x80\x80\x80\x00\x01\x01a", needs("a"))
	takes(t, none+list("\x82\x00\x80\x00\x81\x80\x00b"), needs("", "b"))
}

// TestBytesLeft has bytes behind the fields, and behind the names, within the length.
func TestBytesLeft(t *testing.T) {
	for x := range 256 {
		more := string([]byte{byte(x)})
		read.Refuses(t, info("\x01\x02\x03\x04"+more), 14, 6)
		read.Refuses(t, info("\x01\x02\x03\x04"+more)+list("\x01\x01a"), 14, 6)
		read.Refuses(t, info("\xac\x02\x00\x80\x01\x00"+more+more), 14, 8)
		read.Refuses(t, none+list("\x01\x01a"+more), 14, 11)
		read.Refuses(t, none+list("\x02\x01a\x02bc"+more+more), 14, 14)
		read.Refuses(t, none+list("\x01\x01a"+more)+"\x02", 14, 11)
		read.Refuses(t, none+list("\x01\x00"+more+strings.Repeat("n", 300)), 14, 11)
	}
}

// TestNoNames: the subsection of no names is none.
func TestNoNames(t *testing.T) {
	read.Refuses(t, none+"\x02\x01\x00", 15, 8)
	read.Refuses(t, none+"\x02\x02\x80\x00", 15, 8)
	read.Refuses(t, none+"\x02\x05\x80\x80\x80\x80\x00", 15, 8)
	read.Refuses(t, none+"\x02\x81\x00\x00", 15, 9)
	read.Refuses(t, "\x01\x05\xac\x02\x00\x00\x00\x02\x01\x00", 15, 9)
	// It counts ahead of bytes that are left, of a third subsection, and of an alignment.
	read.Refuses(t, none+"\x02\x02\x00\x00", 15, 8)
	read.Refuses(t, none+"\x02\x03\x00\x01a", 15, 8)
	read.Refuses(t, none+"\x02\x01\x00\x03", 15, 8)
	read.Refuses(t, info("\x00\x15\x00\x00")+"\x02\x01\x00", 15, 8)
	read.Refuses(t, none+"\x02\x00", 2, 8)
	// Numbers whose lower 8 or 16 bits are 0.
	read.Refuses(t, none+"\x02\x02\x80\x02", 2, 10)
	read.Refuses(t, none+"\x02\x03\x80\x80\x04", 29, 8)
}

// TestMostNames has 200 names and one more, which are read whole, and more than 10000, which are not.
func TestMostNames(t *testing.T) {
	for _, n := range []int{1, 127, 128, 199, 200} {
		takes(t, none+list(trial.NeededBytes(numbered(n))), needs(numbered(n)...))
	}
	for _, n := range []int{201, 202, 256, 1000, 9999, 10000} {
		b := trial.NeededBytes(numbered(n))
		from, last := begin(b), len(b)-len("m")-len(strconv.Itoa(n-1))
		read.Refuses(t, none+list(b), 29, 0)
		read.Refuses(t, none+list(trial.Uint(n)+strings.Repeat("\x01a", n)), 29, 0) // equal ones
		read.Refuses(t, info("\x00\x15\x00\x00")+list(b), 25, 0)
		// What is wrong with the bytes counts ahead.
		read.Refuses(t, none+list(b)+"\x03", 15, from+len(b))
		read.Refuses(t, none+list(b[:len(b)-1]+"\xff"), 4, from+last)
		read.Refuses(t, none+list(b[:len(b)-1]), 2, begin(b[:len(b)-1])+last)
		read.Refuses(t, none+list(b+"\x00"), 14, begin(b+"\x00")+len(b))
	}
	for _, n := range []int{10001, 10002, 20000, 65536} {
		b := trial.NeededBytes(numbered(n))
		read.Refuses(t, none+list(b), 29, begin(b))
		read.Refuses(t, none+list(b)+"\x03", 29, begin(b))
		read.Refuses(t, info("\x00\x15\x00\x00")+list(b), 29, begin(b))
		read.Refuses(t, none+list(trial.Uint(n)), 29, 8)
		read.Refuses(t, none+list(trial.Uint(n)+"\x01\xff"), 29, 8)
	}
	read.Refuses(t, none+list("\xff\xff\xff\xff\x0f"), 29, 8)
	read.Refuses(t, none+list("\x80\x80\x80\x80\x08"), 29, 8)
}

// TestBrokenNames has names that are too long, and such that are not valid, first and behind others.
func TestBrokenNames(t *testing.T) {
	for _, x := range trial.BrokenNames("\x01", "\x02", "\x02\x01a", "\x03\x01a\x00", "\xc8\x01\x01a", "\x90\x4e\x02bc") {
		// The contents may end ahead of the name's end, which is an error of its own.
		for _, more := range []string{"", "\x00", "\x01b"} {
			read.Agrees(t, none+list(x.B+more))
			read.Agrees(t, "\x01\x05\xac\x02\x00\x00\x00"+list(x.B+more)+"\x01b")
		}
		contents := x.B + strings.Repeat("\xff", 500)
		read.Refuses(t, none+list(contents), x.Why, begin(contents)+x.At)
		read.Refuses(t, none+list(contents)+"\x03", x.Why, begin(contents)+x.At)
		read.Refuses(t, info("\x00\x15\x00\x00")+list(contents), x.Why, begin(contents)+x.At)
	}
	// A name that is too long is so at its size, and one that is not valid at its bytes.
	long := strings.Repeat("n", 201)
	read.Refuses(t, none+list("\x01\xc9\x01"+long), 13, 10)
	read.Refuses(t, none+list("\x02\x01a\xc9\x01"+long), 13, 12)
	read.Refuses(t, none+list("\x01\xc8\x01"+long[:199]+"\xff"), 4, 12)
	read.Refuses(t, none+list("\x01\x02\xe2\x82"), 4, 10)
	read.Refuses(t, none+list("\x02\x01a\x01\xff"), 4, 12)
	read.Refuses(t, none+list("\x03\x01a\x01\xff\x01a"), 4, 12)
	takes(t, none+list("\x02\x01a\xc8\x01"+long[:200]), needs("a", long[:200]))
}

// TestNotRight reads what Right refuses, which is told at the beginning.
func TestNotRight(t *testing.T) {
	for _, align := range []string{"\x15", "\x16", "\x7f", "\x94\x02", "\xff\xff\xff\xff\x0f"} {
		for _, b := range []string{"\x05" + align + "\x06\x00", "\x05\x00\x06" + align, "\x00" + align + "\x00" + align, "\x80\x01" + align + "\x00\x14"} {
			read.Refuses(t, info(b), 25, 0)
			read.Refuses(t, info(b)+"\x02\x03\x01\x01a", 25, 0)
			read.Refuses(t, info(b)+"\x02\x05\x02\x01a\x01a", 25, 0)
			// Errors of the subsections count ahead of it.
			at := len(info(b))
			read.Refuses(t, info(b)+"\x03", 15, at)
			read.Refuses(t, info(b)+"\x01\x04\x00\x00\x00\x00", 15, at)
			read.Refuses(t, info(b)+"\x02", 2, at+1)
			read.Refuses(t, info(b)+"\x02\x03\x01\x01", 2, at+2)
			read.Refuses(t, info(b)+"\x02\x03\x01\x01\xff", 4, at+4)
			read.Refuses(t, info(b)+"\x02\x01\x00", 15, at+2)
			read.Refuses(t, info(b)+"\x02\x03\x01\x00\x00", 14, at+4)
			read.Refuses(t, info(b)+"\x02\x03\x01\x01a\x02", 15, at+5)
			read.Refuses(t, info(b+"\x00"), 14, at)
		}
	}
	takes(t, info("\x05\x14\x06\x14"), data(5, 20, 6, 20))
}

// TestEqualNamesAreRead: that a name comes twice is told at the beginning, and behind all other errors of the bytes.
func TestEqualNamesAreRead(t *testing.T) {
	for _, b := range []string{"\x02\x01a\x01a", "\x02\x00\x00", "\x03\x01a\x01b\x01a", "\x03\x01a\x01b\x01b", "\x03\x01a\x01a\x01b", "\x02\x81\x00a\x01a"} {
		read.Refuses(t, none+list(b), 27, 0)
		read.Refuses(t, none+list(b)+"\x02", 15, 8+len(b))
		read.Refuses(t, none+list(b)+"\x03\x00", 15, 8+len(b))
		read.Refuses(t, none+list(b+"\x00"), 14, 8+len(b))
		more := string([]byte{b[0] + 1}) + b[1:]
		read.Refuses(t, none+list(more), 2, 8+len(b))
		read.Refuses(t, none+list(more+"\x01\xff"), 4, 9+len(b))
		read.Refuses(t, none+list(more+"\xc9\x01"), 13, 8+len(b))
	}
	for _, pair := range [][2]int{{0, 1}, {0, 199}, {50, 150}, {198, 199}} {
		names := numbered(200)
		names[pair[1]] = names[pair[0]]
		read.Refuses(t, none+list(trial.NeededBytes(names)), 27, 0)
	}
}

// TestEveryByteChanged changes the bytes of encodings, one at a time, to every value.
func TestEveryByteChanged(t *testing.T) {
	for _, good := range []string{
		none,
		"\x01\x06\xac\x02\x14\x80\x01\x14",
		"\x01\x84\x00\x01\x02\x03\x04\x02\x04\x02\x01a\x00",
		"\x01\x05\xac\x02\x00\x00\x00\x02\x86\x00\x01\x04libc",
		none + "\x02\x0c\x04\x03\xe2\x82\xac\x01\x00\x01\x01\x02\x02\x00",
	} {
		for at := range len(good) {
			for x := range 256 {
				b := good[:at] + string([]byte{byte(x)}) + good[at+1:]
				read.Agrees(t, b)
				read.Agrees(t, b+"\x02\x02\x01\x00")
			}
		}
	}
}

// TestAllShortContents tries the strings of the bytes that mean something, alone and behind what may be there.
func TestAllShortContents(t *testing.T) {
	for _, lead := range []string{"", "\x01", "\x01\x05", "\x01\x04\x00\x15", none, none + "\x02", none + "\x02\x05"} {
		for n := range 6 {
			trial.Words([]byte("\x00\x01\x02\x03\x80\xff"), n, func(w []byte) { read.Agrees(t, lead+string(w)) })
		}
	}
	for n := range 6 {
		trial.Words([]byte("\x00\x01\x02a\xff"), n, func(w []byte) {
			read.Agrees(t, none+list(string(w)))
			read.Agrees(t, none+list("\x02"+string(w)))
			read.Agrees(t, info(string(w)))
			read.Agrees(t, info(string(w))+list("\x02\x01a\x01a"))
		})
	}
}

// TestReadersGoOn: all that is left is read, and what is before it is not asked for.
func TestReadersGoOn(t *testing.T) {
	for _, x := range samples() {
		for _, lead := range []string{"\x00", none, "\x02\x03\x01\x01a", strings.Repeat("\xff", 300)} {
			s := scan.Over([]byte(lead + x.B))
			s.Bytes(len(lead))
			if got, stop := try(s); !trial.SameDylink(got, x.E) || stop != (abort.Stop{}) || s.At() != len(lead)+len(x.B) || !s.Done() {
				t.Errorf("Read behind % x: %+v, %v, then At %d, want %+v", trial.Short(lead), tell(got), stop, s.At(), tell(x.E))
			}
			// There is nothing to read then.
			if got, stop := try(s); !trial.SameDylink(got, api.Dylink{}) || stop != (abort.Stop{Why: 15, At: len(lead) + len(x.B)}) {
				t.Errorf("Read of nothing: %+v, %v", tell(got), stop)
			}
		}
	}
	// A reader of a part reads only this, and a part of a part likewise.
	s := scan.Over([]byte("\xff" + none + list("\x01\x01a") + "\x03\x03"))
	s.Byte()
	if got, stop := try(s.Sub(6)); !trial.SameDylink(got, needs()) || stop != (abort.Stop{}) {
		t.Errorf("Read of a part: %+v, %v", tell(got), stop)
	}
	if got, stop := try(s); !trial.SameDylink(got, api.Dylink{}) || stop != (abort.Stop{Why: 15, At: 7}) {
		t.Errorf("Read behind it: %+v, %v", tell(got), stop)
	}
}

// P16.4

// anyData is what may be, by chance.
func anyData(next func(n int) int) api.Dylink {
	sizes := edges()
	d := data(sizes[next(len(sizes))].E, uint32(next(21)), sizes[next(len(sizes))].E, uint32(next(21)), numbered(next(12))...)
	if next(20) == 0 {
		d.Needed = numbered(next(201))
	}
	for at := range d.Needed {
		switch next(4) {
		case 0:
			d.Needed[at] += strings.Repeat("n", next(190))
		case 1:
			d.Needed[at] = "\u20ac" + d.Needed[at] + "\x00"
		}
	}
	return d
}

func TestReadInvertsPut(t *testing.T) {
	for _, x := range samples() {
		comesBack(t, x.E)
	}
	for _, n := range trial.Names() {
		if n.Why == 0 {
			comesBack(t, needs(n.S))
			comesBack(t, data(1, 2, 3, 4, "first", n.S, "last"))
		}
	}
	next := trial.Chance(3)
	for range 3000 {
		d := anyData(next)
		agrees(t, d)
		comesBack(t, d)
	}
	comesBack(t, data(math.MaxUint32, 20, math.MaxUint32, 20, sized(slices.Repeat([]int{200}, 200)...)...))
}

// P1

// TestManyBytes reads bytes by chance, of which many are small, alone and where a subsection's contents stand, and many bytes that are alike.
func TestManyBytes(t *testing.T) {
	next := trial.Chance(7)
	for range 6000 {
		b := make([]byte, next(20))
		for at := range b {
			b[at] = byte(next(256))
			if next(3) > 0 {
				b[at] = byte(next(4))
			}
		}
		s := string(b)
		read.Agrees(t, s)
		read.Agrees(t, "\x01"+s)
		read.Agrees(t, info(s))
		read.Agrees(t, none+s)
		read.Agrees(t, none+list(s))
	}
	for x := range 256 {
		s := strings.Repeat(string([]byte{byte(x)}), 1000)
		read.Agrees(t, s)
		read.Agrees(t, info(s))
		read.Agrees(t, none+list(s))
	}
}

// TestAnything asks of what comes by chance, of which much may not be.
func TestAnything(t *testing.T) {
	next := trial.Chance(7)
	names := trial.Names()
	for range 6000 {
		d := anyData(next)
		d.Has = next(8) > 0
		if next(8) == 0 {
			d.MemAlign += uint32(next(3))
			d.TableAlign = uint32(next(30))
		}
		if len(d.Needed) > 0 && next(3) == 0 {
			d.Needed[next(len(d.Needed))] = names[next(len(names))].S
			d.Needed[next(len(d.Needed))] = d.Needed[next(len(d.Needed))]
		}
		agrees(t, d)
	}
	agrees(t, data(math.MaxUint32, math.MaxUint32, math.MaxUint32, math.MaxUint32, numbered(100000)...))
	agrees(t, needs(strings.Repeat("n", 1<<24)))
}

// P2

// TestArguments looks at lists and bytes, and at what is behind them that there is room for.
func TestArguments(t *testing.T) {
	room := []string{"c", "\xff", "a", "b", "a", "c"}
	want := slices.Clone(room)
	for n := range len(room) + 1 {
		for _, names := range [][]string{room[:n], room[n:], room[n:n]} {
			for _, d := range []api.Dylink{needs(names...), data(1, 21, 2, 3, names...), {Needed: names}} {
				dylink.Right(d)
				dylink.Put(d)
			}
		}
	}
	if !slices.Equal(room, want) {
		t.Errorf("the names are %q", room)
	}
	for _, x := range samples() {
		b := []byte(x.B + "\x02\x03\x01\x01a")
		for n := range len(b) + 1 {
			try(scan.Over(b[:n]))
			try(scan.Over(b[n:]))
		}
		if string(b) != x.B+"\x02\x03\x01\x01a" {
			t.Errorf("the bytes are % x", trial.Short(b))
		}
	}
}

// TestKept spoils what was handed in: the results stay, and the next ones are those of what it is then.
func TestKept(t *testing.T) {
	for _, x := range samples() {
		b := []byte(x.B)
		s := scan.Over(b)
		trial.Spoil(b, 0xee)
		got, stop := try(s)
		if !trial.SameDylink(got, x.E) || stop != (abort.Stop{}) {
			t.Errorf("Read: %+v, %v, want %+v", tell(got), stop, tell(x.E))
		}
		put, _ := dylink.Put(x.E)
		trial.Spoil(x.E.Needed, "spoilt")
		if string(put) != x.B {
			t.Errorf("Put: % x", trial.Short(put))
		}
		agrees(t, x.E)
	}
	b := []byte(none + list("\x02\x01a\x02bc"))
	got, _ := try(scan.Over(b))
	trial.Spoil(b, 0xee)
	if !trial.SameDylink(got, needs("a", "bc")) {
		t.Errorf("Read: %+v", tell(got))
	}
}

// TestNew spoils results: those of other calls stay, and so do the arguments.
func TestNew(t *testing.T) {
	for _, x := range samples() {
		for range 2 {
			b, _ := dylink.Put(x.E)
			if string(b) != x.B {
				t.Errorf("Put: % x, want % x", trial.Short(b), trial.Short(x.B))
			}
			trial.Spoil(b, 0xee)
		}
		s := []byte(x.B)
		first, _ := try(scan.Over(s))
		second, _ := try(scan.Over(s))
		trial.Spoil(first.Needed, "spoilt")
		third, _ := try(scan.Over(s))
		if !trial.SameDylink(second, x.E) || !trial.SameDylink(third, x.E) || string(s) != x.B {
			t.Errorf("Read: %+v and %+v, want %+v", tell(second), tell(third), tell(x.E))
		}
	}
	if !slices.EqualFunc(samples(), samples(), func(a, b trial.Sample[api.Dylink]) bool { return trial.SameDylink(a.E, b.E) && a.B == b.B }) {
		t.Errorf("the samples have changed")
	}
}

// TestCalls looks at results behind calls with errors.
func TestCalls(t *testing.T) {
	for _, x := range samples() {
		for _, bad := range wrong() {
			dylink.Right(bad.E)
			dylink.Put(bad.E)
			try(scan.Over([]byte(none + list("\x02\x01a\x01a"))))
			try(scan.Over([]byte(none + "\x02\x03\x01\x01")))
			try(scan.Over(nil))
			writes(t, x.E, x.B)
			takes(t, x.B, x.E)
		}
	}
}
