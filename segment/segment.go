// Package segment has what the segments of a table and those of a memory have in common: how they begin, and where they go.
package segment

import (
	"slices"

	"creel/api"
	"creel/consts"
	"creel/scan"
	"creel/wire"
)

// Head: the bytes of the beginning: the only table or memory, and the offset. consts.Right's errors.
func Head(offset api.Instr) ([]byte, api.Errno) {
	b, e := consts.Put(offset)
	if e != api.OK {
		return nil, e
	}
	return slices.Concat([]byte{0}, b), api.OK
}

// GetHead: the offset of the beginning that comes next. ErrFlag: it is of another table or memory, or of another form; consts.Read's errors.
func GetHead(s *scan.Scanner) api.Instr {
	wire.Nought(s)
	return consts.Read(s)
}

// Place: where the first of n things goes in something of such a size, by globals' values. consts.Value's errors; ErrType: the offset is no i32; ErrSegment: not all of them are within it.
func Place(offset api.Instr, taken []api.Value, n int, size uint64) (uint32, api.Errno) {
	v, e := consts.Value(offset, taken)
	switch {
	case e != api.OK:
		return 0, e
	case v.T != api.I32:
		return 0, api.ErrType
	case v.N > size || uint64(n) > size-v.N: // the sum of both could be too large for a number
		return 0, api.ErrSegment
	}
	return uint32(v.N), api.OK // an i32 that is right has no more bits
}
