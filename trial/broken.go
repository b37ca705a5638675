package trial

import (
	"strings"

	"creel/api"
)

// Name is a name that may be, for which Why is 0, or may not be.
type Name struct {
	S   string
	Why api.Errno
}

// Names are those at the edges, right and wrong.
func Names() []Name {
	long := strings.Repeat("n", 201)
	return []Name{
		{"", 0},
		{"a", 0},
		{"\x00", 0},
		{"\u20ac\U0010ffff", 0},
		{long[:127], 0},
		{long[:128], 0},
		{long[:199], 0},
		{long[:200], 0},
		{strings.Repeat("\u20ac", 66) + "ab", 0},
		{long, 13},
		{strings.Repeat("\u20ac", 67), 13}, // bytes count, not code points
		{long + long, 13},
		{long[:200] + "\xff", 13},
		{"\xff" + long, 13},
		{"\xff", 4},
		{"\x80", 4},
		{"\xc0\x80", 4},
		{"a\xe2\x82", 4},
		{"\u20ac\xff", 4},
		{"\xed\xa0\x80", 4},
		{"\xf4\x90\x80\x80", 4},
		{"\xff" + long[:199], 4},
		{long[:199] + "\xff", 4},
	}
}

// BrokenNames have a name that may not be, or that is too long to be read, behind each of some leads.
func BrokenNames(leads ...string) []Broken {
	var list []Broken
	for _, lead := range leads {
		at := len(lead)
		for _, n := range Names() {
			b := lead + Sized(n.S)
			switch n.Why {
			case 13:
				list = append(list, Broken{b, 13, at})
			case 4: // at the bytes, behind their number
				list = append(list, Broken{b, 4, len(b) - len(n.S)})
			}
		}
		list = append(list,
			Broken{lead + "\xc9\x01", 13, at},
			Broken{lead + "\xc9\x81\x80\x80\x00", 13, at},
			Broken{lead + "\x80\x80\x80\x80\x08", 13, at},
			Broken{lead + "\xff\xff\xff\xff\x0f", 13, at},
			Broken{lead + "\x82\x80\x00a\xff", 4, at + 3},
			// The bytes of a code point that is cut off are not those of what follows.
			Broken{lead + "\x02\xe2\x82\x01\xac", 4, at + 1},
		)
	}
	return append(list, BrokenNumbers(leads...)...)
}

// BrokenNumbers have a number of 32 bits that is none behind each of some leads.
func BrokenNumbers(leads ...string) []Broken {
	var list []Broken
	for _, lead := range leads {
		for _, s := range []string{
			"\x80\x80\x80\x80\x10",     // 2^32
			"\xff\xff\xff\xff\x7f",     // 2^35 - 1
			"\x80\x80\x80\x80\x80\x00", // 0, in 6 bytes
			"\xff\xff\xff\xff\xff",
		} {
			list = append(list, Broken{lead + s, 3, len(lead)})
		}
	}
	return list
}

// BrokenBytes have every byte that is wrong behind each of some leads.
func BrokenBytes(wrong func(x byte) api.Errno, leads ...string) []Broken {
	var list []Broken
	for _, lead := range leads {
		for x := range 256 {
			if e := wrong(byte(x)); e != 0 {
				list = append(list, Broken{lead + string([]byte{byte(x)}), e, len(lead)})
			}
		}
	}
	return list
}
