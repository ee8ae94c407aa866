package bits

import (
	"slices"
	"strings"

	"praxinoscope/api"
)

// mostPen is how many bits a pen may write.
const mostPen = 1 << 24

// Pen is bits that were written. NewPen makes it.
type Pen struct {
	// self is the pen itself: so one that NewPen did not answer is known, and a copy of one too, which would share its bytes.
	self  *Pen
	bytes []byte
	count int
}

// NewPen makes a pen that wrote nothing.
func NewPen() *Pen {
	p := &Pen{}
	p.self = p
	return p
}

// Put writes a number as so many bits.
func (p *Pen) Put(n, bits int) api.Errno {
	if !p.made() {
		return api.ErrNil
	}
	if bits < 0 || bits > mostBits || n < 0 || n>>bits != 0 {
		return api.ErrRange
	}
	if bits > p.room() {
		return api.ErrLong
	}
	for i := range bits {
		p.push(n >> (bits - 1 - i) & 1)
	}
	return api.OK
}

// Code writes the bits that a text spells.
func (p *Pen) Code(s string) api.Errno {
	if !p.made() {
		return api.ErrNil
	}
	if strings.ContainsFunc(s, isNoBit) {
		return api.ErrForm
	}
	if len(s) > p.room() {
		return api.ErrLong
	}
	push := p.push
	for _, r := range s {
		push(int(r - '0'))
	}
	return api.OK
}

// Len tells how many bits were written.
func (p *Pen) Len() int {
	if !p.made() {
		return 0
	}
	return p.count
}

// Bytes tells the bits that were written, with noughts where a last byte lacks some.
func (p *Pen) Bytes() []byte {
	if !p.made() {
		return nil
	}
	return slices.Clone(p.bytes)
}

// made tells whether NewPen answered this pen.
func (p *Pen) made() bool {
	return p != nil && p.self == p
}

// room tells how many bits more may be written.
func (p *Pen) room() int {
	return mostPen - p.count
}

// push writes one bit.
func (p *Pen) push(bit int) {
	if p.count%8 == 0 {
		p.bytes = append(p.bytes, 0)
	}
	p.bytes[p.count/8] |= byte(bit << (7 - p.count%8))
	p.count++
}

// isNoBit tells whether something in a text spells no bit.
func isNoBit(r rune) bool {
	return r != '0' && r != '1'
}
