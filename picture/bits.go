package picture

import (
	"strconv"
	"strings"

	"praxinoscope/api"
	"praxinoscope/bits"
)

// How many bits the parts of a header have, and which bit of a type, from the last one on, tells the format.
const (
	timeBits  = 5
	typeBits  = 6
	moreBits  = 1
	spareBits = 8
	formatBit = 2
)

// What stands ahead of each spare byte, and behind the last one.
const (
	moreCode = "1"
	endCode  = "0"
)

// cursor is a place of bytes that goes on behind each bit that was taken there; it hands out as many as are wanted.
type cursor struct {
	b          []byte
	at, wanted int
}

// take tells the next bit, or false, if no more are wanted, or there is none.
func (c *cursor) take() (int, bool) {
	if c.wanted == 0 {
		return 0, false
	}
	bit, err := bits.Read(c.b, c.at, 1)
	if err != api.OK {
		return 0, false
	}
	c.at++
	c.wanted--
	return bit, true
}

// number reads a number of so many bits.
func (c *cursor) number(many int) (int, api.Errno) {
	c.wanted = many
	n := join(c.take)
	if c.wanted > 0 {
		return 0, api.ErrMore
	}
	return n, api.OK
}

// join tells the number that bits are, which are taken till there is none.
func join(take func() (int, bool)) int {
	n := 0
	for {
		bit, ok := take()
		if !ok {
			return n
		}
		n = n<<1 | bit
	}
}

// head reads a header.
func (c *cursor) head() (api.Head, api.Errno) {
	time, err := c.number(timeBits)
	if err != api.OK {
		return api.Head{}, err
	}
	kind, err := c.number(typeBits)
	if err != api.OK {
		return api.Head{}, err
	}
	h := api.Head{Time: time, Type: kind}
	l := spares{from: c}
	for x := range l.all() {
		h.Spare = append(h.Spare, x)
	}
	if l.err != api.OK {
		return api.Head{}, l.err
	}
	return h, api.OK
}

// text tells the bits of a header that may be.
func text(h api.Head) string {
	var s strings.Builder
	s.WriteString(spell(h.Time, timeBits))
	s.WriteString(spell(h.Type, typeBits))
	for _, x := range h.Spare {
		s.WriteString(moreCode)
		s.WriteString(spell(int(x), spareBits))
	}
	s.WriteString(endCode)
	return s.String()
}

// spell spells a number in so many bits.
func spell(n, many int) string {
	return strconv.FormatInt(int64(1<<many|n), 2)[1:]
}
