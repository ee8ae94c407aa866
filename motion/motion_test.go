package motion_test

import (
	"bytes"
	"math"
	"slices"
	"testing"

	"praxinoscope/api"
	"praxinoscope/frame"
	"praxinoscope/motion"
)

// formats tells both.
func formats() []int {
	return []int{api.QCIF, api.CIF}
}

// groupsOf tells a format's groups.
func groupsOf(format int) []int {
	if format == api.QCIF {
		return []int{1, 3, 5}
	}
	return []int{1, 2, 3, 4, 5, 6, 7, 8, 9, 10, 11, 12}
}

// planeSize tells how many samples a plane has either way (0 is luma).
func planeSize(format, plane int) (int, int) {
	width, height := 176*(1+format), 144*(1+format)
	if plane > 0 {
		return width / 2, height / 2
	}
	return width, height
}

// corner tells where a spot's first sample of luma is, by the words of the document.
func corner(s api.Spot) (int, int) {
	x, y := (s.Address-1)%11*16, (s.Address-1)/11*16
	if s.Format == api.QCIF {
		return x, y + (s.Group-1)/2*48
	}
	return x + (s.Group-1)%2*176, y + (s.Group-1)/2*48
}

// painted tells a picture of samples that a func tells by their plane and place.
func painted(format int, sample func(plane, x, y int) byte) []byte {
	var b []byte
	for plane := range 3 {
		width, height := planeSize(format, plane)
		for y := range height {
			for x := range width {
				b = append(b, sample(plane, x, y))
			}
		}
	}
	return b
}

// ramp is the picture of the chapter's examples, in either format.
func ramp(format int) []byte {
	return painted(format, func(plane, x, y int) byte {
		if plane == 0 {
			return byte(x)
		}
		return byte(y)
	})
}

// signs are four pictures of one format whose four samples at a place tell the plane, and how far to the right and down it is.
func signs(format int) [4][]byte {
	return [4][]byte{
		painted(format, func(plane, x, y int) byte { return byte(plane) }),
		painted(format, func(plane, x, y int) byte { return byte(x>>8 | y>>8<<1) }),
		painted(format, func(plane, x, y int) byte { return byte(x) }),
		painted(format, func(plane, x, y int) byte { return byte(y) }),
	}
}

// chance is a row of numbers that look like chance and are always the same.
type chance uint64

func (c *chance) below(n int) int {
	*c = *c*6364136223846793005 + 1442695040888963407
	return int(uint64(*c) >> 33 % uint64(n))
}

// between tells a number of chance from one on up to another one.
func (c *chance) between(a, b int) int {
	return a + c.below(b-a+1)
}

// picture tells a picture of chance.
func (c *chance) picture(format int) []byte {
	return painted(format, func(plane, x, y int) byte { return byte(c.below(256)) })
}

// spot tells a spot of chance.
func (c *chance) spot() api.Spot {
	format := c.below(2)
	l := groupsOf(format)
	return api.Spot{Format: format, Group: l[c.below(len(l))], Address: 1 + c.below(33)}
}

// far tells numbers that lie far from any format, group, address, block and part; cut to fewer bits, or added to a place, some would be a small one.
func far() []int {
	l := []int{255, 256, 257, 261, 1000, 38016, 152064, 1 << 16, 1<<16 + 1, 1<<16 + 5, 1 << 31, 1<<31 - 1, 1<<31 + 1, 1 << 32, 1<<32 + 1, 1<<32 + 5, 1<<32 - 5, 1<<32 + 15, 1<<32 - 15, 1 << 40, 1<<62 + 1, math.MaxInt, math.MaxInt - 1, math.MaxInt - 15, math.MaxInt - 16, math.MaxInt - 31, math.MaxInt - 159, math.MinInt, math.MinInt + 1, math.MinInt + 15, math.MinInt + 16}
	for _, n := range slices.Clone(l) {
		l = append(l, -n)
	}
	return l
}

// noFormats tells what is no format.
func noFormats() []int {
	return append([]int{-1, 2, -2, 3, 4}, far()...)
}

// noGroups tells what is no group of a format.
func noGroups(format int) []int {
	l := append([]int{0, -1, -2, -3, -5, -12, 13, 14, 15, 17}, far()...)
	if format == api.QCIF {
		return append(l, 2, 4, 6, 7, 9, 11, 12)
	}
	return l
}

// noAddresses tells what is no address.
func noAddresses() []int {
	return append([]int{0, 34, -1, -2, -11, -33, -34, 35, 44}, far()...)
}

// noBlocks tells what is no block.
func noBlocks() []int {
	return append([]int{0, 7, -1, -2, -3, -4, -5, -6, -7, 8, 9, 10}, far()...)
}

// noParts tells what is no part of a vector.
func noParts() []int {
	return append([]int{16, -16, 17, -17, 31, 32, -31, -32}, far()...)
}

// noPictures tells bytes that are no picture of a format, and are no picture's, or another format's.
func noPictures(format int) [][]byte {
	b := ramp(format)
	width, height := planeSize(format, 0)
	return [][]byte{nil, {}, {1}, b[:len(b)-1], append(slices.Clone(b), 0), b[:width*height], b[:len(b)/2], append(slices.Clone(b), b...), ramp(1 - format)}
}

// plainHalf tells a part's half towards 0, without dividing what is below 0.
func plainHalf(part int) int {
	if part < 0 {
		return -(-part / 2)
	}
	return part / 2
}

// plainFits tells what Fits must answer, by the words of the promise.
func plainFits(s api.Spot, x, y int) api.Errno {
	if _, _, e := frame.Corner(s.Format, s.Group, s.Address); e != api.OK {
		return e
	}
	if x < -15 || x > 15 || y < -15 || y > 15 {
		return api.ErrRange
	}
	right, down := corner(s)
	width, height := planeSize(s.Format, 0)
	if right+x < 0 || right+x+16 > width || down+y < 0 || down+y+16 > height {
		return api.ErrVector
	}
	return api.OK
}

// plainFetch tells what Fetch must answer, by the words of the promise.
func plainFetch(b []byte, s api.Spot, block, x, y int) ([]byte, api.Errno) {
	if _, _, e := frame.Corner(s.Format, s.Group, s.Address); e != api.OK {
		return nil, e
	}
	if _, _, many, _ := frame.Size(s.Format); len(b) != many {
		return nil, api.ErrArg
	}
	if block < 1 || block > 6 {
		return nil, api.ErrRange
	}
	if e := plainFits(s, x, y); e != api.OK {
		return nil, e
	}
	right, down := corner(s)
	plane := 0
	switch block {
	case 2:
		right += 8
	case 3:
		down += 8
	case 4:
		right, down = right+8, down+8
	case 5, 6:
		plane, right, down = block-4, right/2, down/2
		x, y = plainHalf(x), plainHalf(y)
	}
	return cut(b, s.Format, plane, right+x, down+y), api.OK
}

// cut tells eight times eight samples of a plane.
func cut(b []byte, format, plane, right, down int) []byte {
	for i := range plane {
		width, height := planeSize(format, i)
		b = b[width*height:]
	}
	width, _ := planeSize(format, plane)
	var l []byte
	for i := range 8 {
		at := width*(down+i) + right
		l = append(l, b[at:at+8]...)
	}
	return l
}

// fits looks whether Fits answers just this.
func fits(t *testing.T, s api.Spot, x, y int, err api.Errno) {
	t.Helper()
	if e := motion.Fits(s, x, y); e != err {
		t.Fatalf("Fits(%v, %d, %d): %d, not %d", s, x, y, e, err)
	}
}

// fetch looks whether Fetch answers just this, and leaves the bytes.
func fetch(t *testing.T, b []byte, s api.Spot, block, x, y int, want []byte, err api.Errno) {
	t.Helper()
	was := slices.Clone(b)
	l, e := motion.Fetch(b, s, block, x, y)
	if !bytes.Equal(l, want) || e != err {
		t.Fatalf("Fetch(.., %v, %d, %d, %d): %v, %d, not %v, %d", s, block, x, y, l, e, want, err)
	}
	if !bytes.Equal(b, was) {
		t.Fatalf("Fetch(.., %v, %d, %d, %d) changed the picture", s, block, x, y)
	}
}

// plain looks whether Fits and Fetch answer what the promises say, for one block.
func plain(t *testing.T, b []byte, s api.Spot, block, x, y int) api.Errno {
	t.Helper()
	want, e := plainFetch(b, s, block, x, y)
	fits(t, s, x, y, plainFits(s, x, y))
	fetch(t, b, s, block, x, y, want, e)
	return e
}

// half looks whether Half answers just this.
func half(t *testing.T, part, want int) {
	t.Helper()
	if n := motion.Half(part); n != want {
		t.Fatalf("Half(%d): %d, not %d", part, n, want)
	}
}

func TestExamples(t *testing.T) {
	half(t, 5, 2)
	half(t, -5, -2)
	half(t, -1, 0)
	fits(t, api.Spot{Group: 1, Address: 1}, 0, 0, api.OK)
	fits(t, api.Spot{Group: 1, Address: 1}, -1, 0, api.ErrVector)
	fits(t, api.Spot{Group: 1, Address: 11}, 1, 0, api.ErrVector)
	fits(t, api.Spot{Group: 5, Address: 33}, 0, 1, api.ErrVector)
	fits(t, api.Spot{Group: 1, Address: 1}, 16, 0, api.ErrRange)
	p := ramp(api.QCIF)
	fetch(t, p, api.Spot{Group: 1, Address: 2}, 1, 3, 0, bytes.Repeat([]byte{19, 20, 21, 22, 23, 24, 25, 26}, 8), api.OK)
	var rows []byte
	for y := 7; y < 15; y++ {
		rows = append(rows, bytes.Repeat([]byte{byte(y)}, 8)...)
	}
	fetch(t, p, api.Spot{Group: 1, Address: 13}, 5, 0, -3, rows, api.OK)
	fetch(t, p, api.Spot{Group: 1, Address: 2}, 7, 0, 0, nil, api.ErrRange)
	fetch(t, []byte{1, 2, 3}, api.Spot{Group: 1, Address: 2}, 1, 0, 0, nil, api.ErrArg)
}

func TestHalf(t *testing.T) {
	for n, want := range map[int]int{0: 0, 1: 0, -1: 0, 2: 1, -2: -1, 3: 1, -3: -1, 4: 2, -4: -2, 7: 3, -7: -3, 8: 4, -8: -4, 14: 7, -14: -7, 15: 7, -15: -7, 16: 8, -16: -8, 17: 8, -17: -8, 255: 127, -255: -127, 1<<32 + 1: 1 << 31, -1<<32 - 1: -1 << 31, math.MaxInt: math.MaxInt >> 1, math.MaxInt - 1: math.MaxInt >> 1, math.MinInt: math.MinInt >> 1, math.MinInt + 1: math.MinInt>>1 + 1} {
		half(t, n, want)
	}
	for n := -2000; n <= 2000; n++ {
		half(t, n, plainHalf(n))
		if h := motion.Half(n); n-2*h != n%2 || motion.Half(-n) != -h {
			t.Fatal(n, h)
		}
	}
}

// TestEdges tries at each edge of a picture a vector that just fits and one that is one too far.
func TestEdges(t *testing.T) {
	for _, x := range []struct{ format, group, address, atLeft, above, atRight, below int }{
		{api.QCIF, 1, 1, 1, 1, 0, 0},
		{api.QCIF, 1, 11, 0, 1, 1, 0},
		{api.QCIF, 5, 23, 1, 0, 0, 1},
		{api.QCIF, 5, 33, 0, 0, 1, 1},
		{api.QCIF, 3, 12, 1, 0, 0, 0},
		{api.QCIF, 3, 22, 0, 0, 1, 0},
		{api.QCIF, 1, 23, 1, 0, 0, 0},
		{api.QCIF, 3, 6, 0, 0, 0, 0},
		{api.CIF, 1, 1, 1, 1, 0, 0},
		{api.CIF, 1, 11, 0, 1, 0, 0},
		{api.CIF, 2, 1, 0, 1, 0, 0},
		{api.CIF, 2, 11, 0, 1, 1, 0},
		{api.CIF, 11, 23, 1, 0, 0, 1},
		{api.CIF, 11, 33, 0, 0, 0, 1},
		{api.CIF, 12, 23, 0, 0, 0, 1},
		{api.CIF, 12, 33, 0, 0, 1, 1},
		{api.CIF, 7, 12, 1, 0, 0, 0},
		{api.CIF, 5, 22, 0, 0, 0, 0},
		{api.CIF, 6, 12, 0, 0, 0, 0},
	} {
		s := api.Spot{Format: x.format, Group: x.group, Address: x.address}
		fits(t, s, 0, 0, api.OK)
		for n := 1; n <= 15; n++ {
			fits(t, s, -n, 0, []api.Errno{api.OK, api.ErrVector}[x.atLeft])
			fits(t, s, 0, -n, []api.Errno{api.OK, api.ErrVector}[x.above])
			fits(t, s, n, 0, []api.Errno{api.OK, api.ErrVector}[x.atRight])
			fits(t, s, 0, n, []api.Errno{api.OK, api.ErrVector}[x.below])
		}
		for _, n := range []int{16, -16} {
			fits(t, s, n, 0, api.ErrRange)
			fits(t, s, 0, n, api.ErrRange)
			fits(t, s, n, n, api.ErrRange)
		}
	}
}

// TestFits asks for the vectors of each spot of both formats, and for parts that are one too great.
func TestFits(t *testing.T) {
	for _, format := range formats() {
		seen := map[api.Errno]int{}
		for _, group := range groupsOf(format) {
			for address := 1; address <= 33; address++ {
				s := api.Spot{Format: format, Group: group, Address: address}
				for x := -16; x <= 16; x++ {
					for _, y := range []int{-16, -15, -8, -1, 0, 1, 8, 15, 16} {
						want := plainFits(s, x, y)
						fits(t, s, x, y, want)
						want = plainFits(s, y, x)
						fits(t, s, y, x, want)
						seen[want]++
					}
				}
			}
		}
		if len(seen) != 3 {
			t.Error("some answer never came", seen)
		}
	}
}

// TestEachSampleTellsWhereItStands fetches each block of each spot by vectors of both signs from pictures whose samples tell their plane and place.
func TestEachSampleTellsWhereItStands(t *testing.T) {
	for _, format := range formats() {
		p := signs(format)
		for _, group := range groupsOf(format) {
			for address := 1; address <= 33; address++ {
				s := api.Spot{Format: format, Group: group, Address: address}
				right, down := corner(s)
				for block := 1; block <= 6; block++ {
					for _, v := range [][2]int{{0, 0}, {15, 14}, {-15, -14}, {-1, 1}, {7, -9}, {-6, -11}} {
						if motion.Fits(s, v[0], v[1]) != api.OK {
							v = [2]int{}
						}
						plane, x, y := 0, right+v[0]+(block-1)%2*8, down+v[1]+(block-1)/2*8
						if block > 4 {
							plane, x, y = block-4, right/2+plainHalf(v[0]), down/2+plainHalf(v[1])
						}
						var got [4][]byte
						for i := range p {
							got[i], _ = motion.Fetch(p[i], s, block, v[0], v[1])
							if len(got[i]) != 64 {
								t.Fatal(s, block, v, "has", len(got[i]))
							}
						}
						for i := range 64 {
							if a, b := x+i%8, y+i/8; int(got[0][i]) != plane || int(got[1][i]) != a>>8|b>>8<<1 || got[2][i] != byte(a) || got[3][i] != byte(b) {
								t.Fatal(s, block, v, i, got[0][i], got[1][i], got[2][i], got[3][i], "not", plane, a, b)
							}
						}
					}
				}
			}
		}
	}
}

// TestFetchAllVectors fetches each block by each vector in the middle of a picture, and in its corners.
func TestFetchAllVectors(t *testing.T) {
	c := chance(1)
	for _, s := range []api.Spot{{Group: 3, Address: 17}, {Group: 1, Address: 1}, {Group: 5, Address: 33}, {Format: api.CIF, Group: 4, Address: 12}, {Format: api.CIF, Group: 2, Address: 11}, {Format: api.CIF, Group: 11, Address: 23}} {
		b := c.picture(s.Format)
		for block := 1; block <= 6; block++ {
			for x := -16; x <= 16; x++ {
				for y := -16; y <= 16; y++ {
					want, e := plainFetch(b, s, block, x, y)
					if l, err := motion.Fetch(b, s, block, x, y); !bytes.Equal(l, want) || err != e {
						t.Fatal(s, block, x, y, l, err, "not", want, e)
					}
				}
			}
		}
	}
}

// TestFetchByChance fetches whatever comes.
func TestFetchByChance(t *testing.T) {
	c := chance(2)
	p := [2][]byte{c.picture(api.QCIF), c.picture(api.CIF)}
	seen := map[api.Errno]int{}
	for range 3000 {
		s := c.spot()
		seen[plain(t, p[s.Format], s, 1+c.below(6), c.between(-15, 15), c.between(-15, 15))]++
	}
	if seen[api.OK] < 1000 || seen[api.ErrVector] < 100 {
		t.Error("too few", seen)
	}
}

// TestNothingMoved fetches by 0, 0 what stands at each block's place.
func TestNothingMoved(t *testing.T) {
	c := chance(3)
	for _, format := range formats() {
		b := c.picture(format)
		for _, group := range groupsOf(format) {
			for address := 1; address <= 33; address++ {
				for block := 1; block <= 6; block++ {
					at, row, _ := frame.Place(format, group, address, block)
					var want []byte
					for i := range 8 {
						want = append(want, b[at+row*i:at+row*i+8]...)
					}
					fetch(t, b, api.Spot{Format: format, Group: group, Address: address}, block, 0, 0, want, api.OK)
				}
			}
		}
	}
}

// TestChromaLiesWithin tells each chroma plane apart: whatever vector fits, of both chromas nothing is fetched but their own.
func TestChromaLiesWithin(t *testing.T) {
	for _, format := range formats() {
		width, _ := planeSize(format, 1)
		b := painted(format, func(plane, x, y int) byte {
			if plane == 0 {
				return 255
			}
			return byte(x)
		})
		other := painted(format, func(plane, x, y int) byte { return byte(plane) })
		for _, group := range groupsOf(format) {
			for address := 1; address <= 33; address++ {
				s := api.Spot{Format: format, Group: group, Address: address}
				for _, v := range [][2]int{{-15, 0}, {15, 0}, {0, -15}, {0, 15}, {-15, -15}, {15, 15}, {-14, 14}, {1, -1}, {-1, 1}} {
					for block := 5; block <= 6; block++ {
						l, e := motion.Fetch(b, s, block, v[0], v[1])
						if e != motion.Fits(s, v[0], v[1]) {
							t.Fatal(s, block, v, e)
						}
						if e != api.OK {
							continue
						}
						for i := range l {
							// A row that left its plane at a side would go on in the next one.
							if int(l[i]) != int(l[0])+i%8 || int(l[i]) >= width {
								t.Fatal(s, block, v, l)
							}
						}
						if l, _ = motion.Fetch(other, s, block, v[0], v[1]); !bytes.Equal(l, bytes.Repeat([]byte{byte(block - 4)}, 64)) {
							t.Fatal(s, block, v, "left its plane", l)
						}
					}
				}
			}
		}
	}
}

// TestNeighbours fetches luma of neighbouring blocks by two vectors that differ by 8 in one part: it is the same.
func TestNeighbours(t *testing.T) {
	c := chance(4)
	p := [2][]byte{c.picture(api.QCIF), c.picture(api.CIF)}
	many := 0
	for range 20000 {
		s := c.spot()
		x, y := c.between(-15, 15), c.between(-15, 15)
		for _, pair := range [][4]int{{1, 2, 8, 0}, {3, 4, 8, 0}, {1, 3, 0, 8}, {2, 4, 0, 8}} {
			if motion.Fits(s, x, y) != api.OK || motion.Fits(s, x+pair[2], y+pair[3]) != api.OK {
				continue
			}
			// The right one by x is where the left one by 8 more is.
			right, _ := motion.Fetch(p[s.Format], s, pair[1], x, y)
			left, e := motion.Fetch(p[s.Format], s, pair[0], x+pair[2], y+pair[3])
			if !bytes.Equal(left, right) || len(left) != 64 || e != api.OK {
				t.Fatal(s, x, y, pair, left, right)
			}
			many++
		}
	}
	if many < 10000 {
		t.Error("too few", many)
	}
}

// TestNothingElseMatters changes all samples of a picture that are not fetched, and then each one that is.
func TestNothingElseMatters(t *testing.T) {
	c := chance(5)
	for range 40 {
		s := c.spot()
		block, x, y := 1+c.below(6), c.between(-15, 15), c.between(-15, 15)
		b := c.picture(s.Format)
		want, e := motion.Fetch(b, s, block, x, y)
		if e != api.OK {
			continue
		}
		// Three pictures whose samples tell their place tell which ones are fetched.
		seen := 0
		mark := make([]byte, len(b))
		for i := range mark {
			mark[i] = byte(i)
		}
		low, _ := motion.Fetch(mark, s, block, x, y)
		for i := range mark {
			mark[i] = byte(i >> 8)
		}
		middle, _ := motion.Fetch(mark, s, block, x, y)
		for i := range mark {
			mark[i] = byte(i >> 16)
		}
		high, _ := motion.Fetch(mark, s, block, x, y)
		fetched := map[int]bool{}
		for i := range low {
			fetched[int(low[i])|int(middle[i])<<8|int(high[i])<<16] = true
		}
		for i := range b {
			if fetched[i] {
				seen++
			} else {
				b[i] ^= byte(1 + c.below(255))
			}
		}
		if seen != 64 {
			t.Fatal(s, block, x, y, "fetches", seen)
		}
		fetch(t, b, s, block, x, y, want, api.OK)
	}
}

// TestSpotsRefused hands spots that no picture has, with whatever else.
func TestSpotsRefused(t *testing.T) {
	b := ramp(api.QCIF)
	refused := func(s api.Spot, err api.Errno) {
		t.Helper()
		for _, v := range [][2]int{{0, 0}, {15, -15}, {16, 0}, {0, -16}, {math.MaxInt, math.MinInt}} {
			fits(t, s, v[0], v[1], err)
			for _, block := range []int{1, 6, 0, 7, math.MinInt} {
				for _, b := range [][]byte{b, nil, b[1:]} {
					if l, e := motion.Fetch(b, s, block, v[0], v[1]); len(l) != 0 || e != err {
						t.Fatal(s, block, v, len(b), l, e, "not", err)
					}
				}
			}
		}
	}
	for _, format := range noFormats() {
		refused(api.Spot{Format: format, Group: 1, Address: 1}, api.ErrRange)
		refused(api.Spot{Format: format, Group: 2, Address: 0}, api.ErrRange)
		refused(api.Spot{Format: format, Group: 14, Address: 34}, api.ErrRange)
	}
	for _, format := range formats() {
		for _, group := range noGroups(format) {
			refused(api.Spot{Format: format, Group: group, Address: 1}, api.ErrOrder)
			refused(api.Spot{Format: format, Group: group, Address: 0}, api.ErrOrder)
		}
		for _, group := range groupsOf(format) {
			for _, address := range noAddresses() {
				refused(api.Spot{Format: format, Group: group, Address: address}, api.ErrAddress)
			}
		}
	}
}

// TestPartsRefused hands what is no part, alone and beside a part that would fit and one that would not.
func TestPartsRefused(t *testing.T) {
	for _, format := range formats() {
		b := ramp(format)
		for _, s := range []api.Spot{{Format: format, Group: 1, Address: 1}, {Format: format, Group: 3, Address: 17}, {Format: format, Group: groupsOf(format)[len(groupsOf(format))-1], Address: 33}} {
			for _, n := range noParts() {
				for _, other := range append([]int{0, 1, -1, 15, -15}, n, -n) {
					fits(t, s, n, other, api.ErrRange)
					fits(t, s, other, n, api.ErrRange)
				}
				fetch(t, b, s, 1, n, 0, nil, api.ErrRange)
				fetch(t, b, s, 6, 15, n, nil, api.ErrRange)
			}
		}
	}
}

// TestBlocksRefused hands what is no block, by vectors that fit, that do not, and that are none.
func TestBlocksRefused(t *testing.T) {
	for _, format := range formats() {
		b := ramp(format)
		for _, block := range noBlocks() {
			for _, v := range [][2]int{{0, 0}, {-1, 0}, {16, 0}, {0, math.MinInt}} {
				fetch(t, b, api.Spot{Format: format, Group: 1, Address: 1}, block, v[0], v[1], nil, api.ErrRange)
			}
		}
	}
}

// TestBytesRefused hands bytes that are no picture of the format, whatever block and vector.
func TestBytesRefused(t *testing.T) {
	for _, format := range formats() {
		for _, b := range noPictures(format) {
			for _, block := range []int{1, 4, 5, 6, 0, 7} {
				for _, v := range [][2]int{{0, 0}, {3, 2}, {-1, 0}, {16, 0}} {
					fetch(t, b, api.Spot{Format: format, Group: 1, Address: 1}, block, v[0], v[1], nil, api.ErrArg)
				}
			}
		}
	}
}

// TestOrderOfErrors hands right and wrong things in all ways they go together.
func TestOrderOfErrors(t *testing.T) {
	seen := map[api.Errno]int{}
	for _, format := range []int{-1, 0, 1, 2} {
		for _, group := range []int{-1, 0, 1, 2, 5, 12, 13} {
			for _, address := range []int{-1, 0, 1, 33, 34} {
				for _, b := range [][]byte{nil, {1}, ramp(api.QCIF), ramp(api.CIF)} {
					for _, block := range []int{-1, 0, 1, 6, 7} {
						for _, v := range [][2]int{{0, 0}, {1, -1}, {-1, 1}, {16, 0}, {0, -16}, {1, 16}, {-16, -1}} {
							s := api.Spot{Format: format, Group: group, Address: address}
							want, e := plainFetch(b, s, block, v[0], v[1])
							if l, err := motion.Fetch(b, s, block, v[0], v[1]); !bytes.Equal(l, want) || err != e {
								t.Fatal(s, len(b), block, v, l, err, "not", want, e)
							}
							fits(t, s, v[0], v[1], plainFits(s, v[0], v[1]))
							seen[e]++
						}
					}
				}
			}
		}
	}
	if len(seen) != 6 {
		t.Error("some answer never came", seen)
	}
}

// TestFetchedIsNew changes what was fetched, and its spare room: neither the picture nor another answer changes.
func TestFetchedIsNew(t *testing.T) {
	c := chance(6)
	for _, format := range formats() {
		b := c.picture(format)
		was := slices.Clone(b)
		for block := 1; block <= 6; block++ {
			s := api.Spot{Format: format, Group: 3, Address: 17}
			kept, _ := motion.Fetch(b, s, block, 3, -3)
			want := slices.Clone(kept)
			for range 3 {
				l, e := motion.Fetch(b, s, block, 3, -3)
				if !bytes.Equal(l, want) || e != api.OK {
					t.Fatal(block, l, e)
				}
				l = l[:cap(l)]
				for i := range l {
					l[i] ^= 255
				}
				if !bytes.Equal(kept, want) || !bytes.Equal(b, was) {
					t.Fatal("changing an answer changed more")
				}
			}
			for i := range b {
				b[i] ^= 255
			}
			if !bytes.Equal(kept, want) {
				t.Fatal("an answer is the picture's")
			}
			copy(b, was)
		}
	}
}

// TestSpareRoom hands pictures whose spare room would make them a greater one: it is neither read nor written.
func TestSpareRoom(t *testing.T) {
	room := ramp(api.CIF)
	was := slices.Clone(room)
	s := api.Spot{Group: 5, Address: 33}
	for block := 1; block <= 6; block++ {
		want, _ := plainFetch(room[:38016], s, block, -2, -7)
		fetch(t, room[:38016], s, block, -2, -7, want, api.OK)
		fetch(t, room[:38015], s, block, -2, -7, nil, api.ErrArg)
		fetch(t, room[:38016], api.Spot{Format: api.CIF, Group: 5, Address: 33}, block, 0, 0, nil, api.ErrArg)
		for i := 38016; i < len(room); i++ {
			room[i] ^= 255
		}
		fetch(t, room[:38016], s, block, -2, -7, want, api.OK)
		copy(room, was)
	}
}

// TestAnswersStay asks again and again, also for wrong things: no call tells on another one.
func TestAnswersStay(t *testing.T) {
	b := ramp(api.QCIF)
	for range 50 {
		fits(t, api.Spot{Group: 1, Address: 1}, -1, 0, api.ErrVector)
		fits(t, api.Spot{Group: 1, Address: 1}, 1, 0, api.OK)
		fits(t, api.Spot{Format: api.CIF, Group: 1, Address: 11}, 1, 0, api.OK)
		fits(t, api.Spot{Group: 1, Address: 11}, 1, 0, api.ErrVector)
		fetch(t, b, api.Spot{Group: 1, Address: 2}, 0, 0, 0, nil, api.ErrRange)
		fetch(t, b[1:], api.Spot{Group: 1, Address: 2}, 1, 0, 0, nil, api.ErrArg)
		fetch(t, b, api.Spot{Group: 1, Address: 2}, 2, -15, 15, bytes.Repeat([]byte{9, 10, 11, 12, 13, 14, 15, 16}, 8), api.OK)
		half(t, -3, -1)
	}
}
