package scan

import (
	"iter"

	"praxinoscope/api"
)

// side is how many rows a block has, and how many numbers each of them.
const side = 8

// numbers are those of a block, row by row.
type numbers [api.MaxPairs]int

// order tells all places of a block, in their order.
func order() iter.Seq[int] {
	return func(yield func(int) bool) {
	diagonals:
		for sum := range 2*side - 1 {
			for x, y, step := begin(sum); ; x, y = x+step, y-step {
				if x < 0 || y < 0 || x >= side || y >= side {
					continue diagonals
				}
				if !yield(side*y + x) {
					return
				}
			}
		}
	}
}

// begin tells where the diagonal of a sum begins, and how far each place of it lies to the right of the one ahead: 1, upwards, or -1, downwards.
func begin(sum int) (x, y, step int) {
	long := min(sum, side-1)
	if sum%2 == 0 {
		return sum - long, long, 1
	}
	return long, sum - long, -1
}

// places tells the order as a table, to be asked for any of its places.
func places() [api.MaxPairs]int {
	var all [api.MaxPairs]int
	i := 0
	for place := range order() {
		all[i] = place
		i++
	}
	return all
}

// spread tells the block of pairs, or the error of the first one that has no place there.
func spread(l []api.Pair, first int) (numbers, api.Errno) {
	var b numbers
	at := places()
	next := first
	for _, p := range l {
		switch {
		case !isLevel(p.Level):
			return numbers{}, api.ErrLevel
		case p.Run < 0 || p.Run >= len(b)-next:
			return numbers{}, api.ErrRun
		}
		next += p.Run
		b[at[next]] = p.Level
		next++
	}
	return b, api.OK
}

// mayBeLevels tells whether each number of a block is a nought or a level.
func (b numbers) mayBeLevels() bool {
	for _, n := range b {
		if n != 0 && !isLevel(n) {
			return false
		}
	}
	return true
}

// pairs tells a block's pairs.
func (b numbers) pairs(first int) []api.Pair {
	var l []api.Pair
	// Where pairs begin at 1, there is a nought at 0, which no run counts.
	run := -first
	for place := range order() {
		if b[place] == 0 {
			run++
			continue
		}
		l = append(l, api.Pair{Run: run, Level: b[place]})
		run = 0
	}
	return l
}
