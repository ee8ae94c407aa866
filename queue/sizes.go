package queue

// byteBits is how many bits a byte has.
const byteBits = 8

// sizes is how much a queue has room for, how many bytes ever came, and how many bits were ever read. All else follows: the byte that came n-th lies in the ring at n, counted round.
type sizes struct {
	most, came, gone int
}

// left tells how many bits were not read.
func (s sizes) left() int {
	return s.came*byteBits - s.gone
}

// held tells how many bytes are there: all that came, but those of which each bit was read.
func (s sizes) held() int {
	return s.came - s.gone/byteBits
}

// free tells for how many bytes there is room.
func (s sizes) free() int {
	return s.most - s.held()
}

// place tells how many bits of the first byte were read.
func (s sizes) place() int {
	return s.gone % byteBits
}

// first tells where in the ring the first byte lies.
func (s sizes) first() int {
	return s.gone / byteBits % s.most
}

// next tells where in the ring the byte will lie that comes next.
func (s sizes) next() int {
	return s.came % s.most
}
