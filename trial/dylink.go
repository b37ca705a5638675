package trial

import (
	"slices"
	"strings"

	"creel/api"
)

// DylinkError is P16.1.
func DylinkError(d api.Dylink) api.Errno {
	if !d.Has {
		if d.MemSize|d.MemAlign|d.TableSize|d.TableAlign != 0 || len(d.Needed) > 0 {
			return 15
		}
		return 0
	}
	if max(d.MemAlign, d.TableAlign) >= 21 {
		return 25
	}
	if len(d.Needed) >= 201 {
		return 29
	}
	return neededError(d.Needed)
}

// neededError is P16.1's last part: each name has its own error ahead of being an earlier one.
func neededError(list []string) api.Errno {
	seen := map[string]bool{}
	for _, s := range list {
		if e := NameError(s); e != 0 {
			return e
		}
		if seen[s] {
			return 27
		}
		seen[s] = true
	}
	return 0
}

// DylinkBytes is P16.2, of what may be.
func DylinkBytes(d api.Dylink) string {
	b := "\x01" + Sized(Fields(d.MemSize, d.MemAlign, d.TableSize, d.TableAlign))
	if len(d.Needed) > 0 {
		b += "\x02" + Sized(NeededBytes(d.Needed))
	}
	return b
}

// Fields are the contents of the first subsection.
func Fields(list ...uint32) string {
	var s string
	for _, n := range list {
		s += Uint(n)
	}
	return s
}

// NeededBytes are the contents of the second one.
func NeededBytes(list []string) string {
	var s strings.Builder
	s.WriteString(Uint(len(list)))
	for _, n := range list {
		s.WriteString(Sized(n))
	}
	return s.String()
}

// Dylink is P16.3, which means nothing behind an error.
func (m *Model) Dylink() (d api.Dylink) {
	from, count := m.At, 0
	for m.At < len(m.B) && !m.Failed() {
		count++
		m.Byte(func(number byte) api.Errno {
			if count > 2 || int(number) != count {
				return 15
			}
			return 0
		})
		m.Part(func(part *Model) {
			if count == 1 {
				part.info(&d)
			} else {
				d.Needed = part.needed()
			}
			part.End()
		})
	}
	if count == 0 {
		m.Fail(15, from)
	}
	d.Has = true
	m.Fail(DylinkError(d), from)
	return d
}

// info is the first subsection's contents.
func (m *Model) info(d *api.Dylink) {
	d.MemSize = m.Index()
	d.MemAlign = m.Index()
	d.TableSize = m.Index()
	d.TableAlign = m.Index()
}

// needed is the second one's.
func (m *Model) needed() (list []string) {
	at := m.At
	n := m.Count()
	if n == 0 {
		m.Fail(15, at)
	}
	for range n {
		if m.Failed() {
			break
		}
		list = append(list, m.Name())
	}
	return list
}

// SameDylink tells whether two are equal, a nil list and an empty one taken for the same.
func SameDylink(a, b api.Dylink) bool {
	return a.Has == b.Has && a.MemSize == b.MemSize && a.MemAlign == b.MemAlign && a.TableSize == b.TableSize && a.TableAlign == b.TableAlign && slices.Equal(a.Needed, b.Needed)
}
