package loop

// A block has so many rows, and each of them so many samples.
const (
	side = 8
	last = side - 1
)

// share is how many numbers come to a softened one; an edge has one beside it alone, and is taken as often itself, so that what is even stays even.
const share = 4

// shares is how many come to one that was softened in its row, and then in its column.
const shares = share * share

// numbers are those of a block, row by row.
type numbers [side * side]int

// view is a row or a column of a block: eight numbers, each a step behind the one ahead.
type view struct {
	of           *numbers
	offset, step int
}

// numbersOf tells a block's samples as numbers.
func numbersOf(block []byte) *numbers {
	var n numbers
	for i, x := range block {
		n[i] = int(x)
	}
	return &n
}

// row tells one row of a block.
func (n *numbers) row(y int) view {
	return view{n, side * y, 1}
}

// column tells one column of a block.
func (n *numbers) column(x int) view {
	return view{n, x, side}
}

// softRows tells a block of softened rows.
func (n *numbers) softRows() *numbers {
	var soft numbers
	for y := range side {
		n.row(y).soften(soft.row(y))
	}
	return &soft
}

// softColumns tells a block of softened columns.
func (n *numbers) softColumns() *numbers {
	var soft numbers
	for x := range side {
		n.column(x).soften(soft.column(x))
	}
	return &soft
}

// samples tells the samples of a block that was softened both ways. None has to be cut: each is the mean of sixteen, rounded.
func (n *numbers) samples() []byte {
	block := make([]byte, len(n))
	for i, sum := range n {
		block[i] = byte((sum + shares/2) / shares)
	}
	return block
}

// at tells the number at a place.
func (v view) at(i int) int {
	return v.of[v.offset+v.step*i]
}

// put puts a number at a place.
func (v view) put(i, n int) {
	v.of[v.offset+v.step*i] = n
}

// list tells all eight numbers.
func (v view) list() []int {
	l := make([]int, side)
	for i := range l {
		l[i] = v.at(i)
	}
	return l
}

// soften puts what becomes of the eight into another view: in their own stead one of them would be gone ahead of the next one, which asks for it.
func (v view) soften(to view) {
	for i := range side {
		to.put(i, v.soft(i))
	}
}

// soft tells what becomes of the number at a place.
func (v view) soft(i int) int {
	switch i {
	case 0:
		fallthrough
	case last:
		return share * v.at(i)
	}
	return v.at(i-1) + 2*v.at(i) + v.at(i+1)
}
