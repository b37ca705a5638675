package trial

import (
	"slices"
	"strings"

	"creel/api"
)

// CountLocals is P14.1's first sentence. No list in the tests is so long that the sum is above what it holds.
func CountLocals(list []api.Local) (int, api.Errno) {
	sum := uint64(0)
	for _, x := range list {
		sum += uint64(x.N)
	}
	if sum >= 1001 {
		return 0, 23
	}
	return int(sum), 0
}

// CodeError is P14.1's last sentence.
func CodeError(c api.Code) api.Errno {
	if len(c.Locals) >= 10001 {
		return 29
	}
	if _, e := CountLocals(c.Locals); e != 0 {
		return e
	}
	for _, x := range c.Locals {
		if e := TypeError(x.T); e != 0 {
			return e
		}
	}
	return ShapeError(c.Body)
}

// LateError is what P14.2 has beside it: the first error of an instruction.
func LateError(c api.Code) api.Errno {
	for _, i := range c.Body {
		if e := InstrError(i); e != 0 {
			return e
		}
	}
	return 0
}

// CodeBytes is P14.2's first sentence, of a body that may be.
func CodeBytes(c api.Code) string { return Sized(LocalBytes(c.Locals) + BodyBytes(c.Body)) }

// LocalBytes are those of groups of locals, behind their number.
func LocalBytes(list []api.Local) string {
	var s strings.Builder
	s.WriteString(Uint(len(list)))
	for _, x := range list {
		s.WriteString(Uint(x.N) + string([]byte{x.T}))
	}
	return s.String()
}

// Code is P14.2's second and third sentence, which means nothing behind an error.
func (m *Model) Code() (c api.Code) {
	m.Part(func(part *Model) {
		from := part.At
		for n := part.Count(); n > 0 && !part.Failed(); n-- {
			x := api.Local{N: part.Index()}
			x.T = part.Byte(TypeError)
			c.Locals = append(c.Locals, x)
		}
		_, e := CountLocals(c.Locals)
		part.Fail(e, from)
		c.Body = part.Body()
		part.End()
	})
	return c
}

// SameCode tells whether two are equal, a nil list and an empty one taken for the same.
func SameCode(a, b api.Code) bool {
	return slices.Equal(a.Locals, b.Locals) && SameBody(a.Body, b.Body)
}
