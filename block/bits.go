package block

import (
	"iter"
	"strconv"
	"strings"

	"praxinoscope/api"
	"praxinoscope/bits"
	"praxinoscope/coeff"
)

// codeBits is how many bits the code of an intra block's first coefficient has.
const codeBits = 8

// cursor is a place of bytes that goes on behind what was read there.
type cursor struct {
	b  []byte
	at int
}

// block reads a block.
func (c *cursor) block(intra bool) (api.Block, api.Errno) {
	var x api.Block
	if intra {
		code, err := c.code()
		if err != api.OK {
			return api.Block{}, err
		}
		x.DC = code
	}
	next := firstPlace(intra)
	for p, err := range c.pairs(!intra) {
		switch {
		case err != api.OK:
			return api.Block{}, err
		case !fits(p.Run, next):
			return api.Block{}, api.ErrRun
		}
		next += p.Run + 1
		x.L = append(x.L, p)
	}
	return x, api.OK
}

// code reads the code of an intra block's first coefficient.
func (c *cursor) code() (int, api.Errno) {
	n, err := bits.Read(c.b, c.at, codeBits)
	switch {
	case err != api.OK:
		return 0, err
	case !isCode(n):
		return 0, api.ErrLevel
	}
	c.at += codeBits
	return n, api.OK
}

// pairs reads pairs, the first one at first or later, up to the end, behind which the cursor then stands, or up to an error, which is told with no pair.
func (c *cursor) pairs(first bool) iter.Seq2[api.Pair, api.Errno] {
	return func(yield func(api.Pair, api.Errno) bool) {
		for isFirst := first; ; isFirst = false {
			p, end, many, err := coeff.Get(c.b, c.at, isFirst)
			c.at += many
			if end || !yield(p, err) || err != api.OK {
				return
			}
		}
	}
}

// text tells the bits of a block that may be.
func text(x api.Block, intra bool) string {
	var s strings.Builder
	if intra {
		s.WriteString(spell(x.DC))
	}
	for i, p := range x.L {
		code, _ := coeff.Put(p, i == 0 && !intra)
		s.WriteString(code)
	}
	s.WriteString(coeff.End())
	return s.String()
}

// spell spells the code of an intra block's first coefficient.
func spell(code int) string {
	return strconv.FormatInt(1<<codeBits|int64(code), 2)[1:]
}
