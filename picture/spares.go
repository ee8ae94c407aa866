package picture

import (
	"iter"

	"praxinoscope/api"
)

// spares are a header's spare bytes, which are read from a cursor; err tells what ended them, if it was not the header's end.
type spares struct {
	from *cursor
	err  api.Errno
}

// all tells the spare bytes, up to the header's end, behind which the cursor then stands, or up to an error.
func (s *spares) all() iter.Seq[byte] {
	return func(yield func(byte) bool) {
		for told := 0; ; told++ {
			x, ok := s.behind(told)
			if !ok || !yield(x) {
				return
			}
		}
	}
}

// behind reads the spare byte behind so many, or tells false, if there is none.
func (s *spares) behind(told int) (byte, bool) {
	more, err := s.from.number(moreBits)
	switch {
	case err != api.OK:
		s.err = err
		return 0, false
	case more == 0:
		return 0, false
	case told == api.MaxSpare:
		s.err = api.ErrLong
		return 0, false
	}
	x, err := s.from.number(spareBits)
	s.err = err
	return byte(x), err == api.OK
}
