package group

import (
	"praxinoscope/api"
	"praxinoscope/bits"
)

// cursor is a place of bytes that goes on behind what is read there.
type cursor struct {
	b  []byte
	at int
}

// header reads a header.
func (c *cursor) header() (int, []byte, api.Errno) {
	quant, err := c.number(quantBits)
	if err != api.OK {
		return 0, nil, err
	}
	if quant == 0 {
		return 0, nil, api.ErrQuant
	}
	spare, err := c.spares()
	return quant, spare, err
}

// spares reads spare bytes, and the end behind them.
func (c *cursor) spares() ([]byte, api.Errno) {
	var l []byte
read:
	for {
		more, err := c.number(moreBits)
		switch {
		case err != api.OK:
			return nil, err
		case more == 0:
			break read
		case len(l) == api.MaxSpare:
			return nil, api.ErrLong
		}
		x, err := c.number(spareBits)
		if err != api.OK {
			return nil, err
		}
		l = append(l, byte(x))
	}
	return l, api.OK
}

// number reads a number of so many bits, or nothing, if there are fewer.
func (c *cursor) number(many int) (int, api.Errno) {
	n, err := bits.Read(c.b, c.at, many)
	if err != api.OK {
		return 0, err
	}
	c.at += many
	return n, api.OK
}
