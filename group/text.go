package group

import "strconv"

// How many bits the parts of a start and of a header have.
const (
	numberBits = 4
	quantBits  = 5
	moreBits   = 1
	spareBits  = 8
)

// What stands ahead of a start's number; ahead of each spare byte; and behind the last one.
const (
	startCode = "0000000000000001"
	moreCode  = "1"
	endCode   = "0"
)

// text is bits, spelled as 0 and 1; each of its methods tells a longer one.
type text string

// start puts a start behind.
func (t text) start(number int) text {
	return t.code(startCode).number(number, numberBits)
}

// header puts a header behind.
func (t text) header(quant int, spare []byte) text {
	return t.number(quant, quantBits).spares(spare).code(endCode)
}

// spares puts spare bytes behind, each with what stands ahead of it.
func (t text) spares(l []byte) text {
	for _, x := range l {
		t = t.code(moreCode).number(int(x), spareBits)
	}
	return t
}

// number puts a number of so many bits behind.
func (t text) number(n, many int) text {
	// A one ahead keeps the noughts that the number begins with.
	return t.code(strconv.FormatInt(int64(1<<many|n), 2)[1:])
}

// code puts these bits behind.
func (t text) code(s string) text {
	return t + text(s)
}
