package paint

// farthest is how far from 0 a number of a residue may lie.
const farthest = 1 << 20

// isResidue tells whether each number of a residue may be.
func isResidue(residue []int) bool {
	for _, n := range residue {
		if n < -farthest || n > farthest {
			return false
		}
	}
	return true
}

// sum tells a sample with a residue's number added, cut.
func sum(sample byte, n int) byte {
	return Clip(int(sample) + n)
}

// combine puts into a list what a func makes of two others, place by place.
func combine[A, B, C any](to []C, a []A, b []B, of func(A, B) C) {
	for i := range to {
		to[i] = of(a[i], b[i])
	}
}
