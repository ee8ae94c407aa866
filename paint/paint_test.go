package paint_test

import (
	"bytes"
	"math"
	"slices"
	"testing"

	"praxinoscope/api"
	"praxinoscope/frame"
	"praxinoscope/motion"
	"praxinoscope/paint"
)

// edge is the greatest number that a residue may have.
const edge = 1 << 20

// formats tells both.
func formats() []int {
	return []int{api.QCIF, api.CIF}
}

// manyOf tells how many bytes a format's picture has.
func manyOf(format int) int {
	return []int{38016, 152064}[format]
}

// groupsOf tells a format's groups.
func groupsOf(format int) []int {
	if format == api.QCIF {
		return []int{1, 3, 5}
	}
	return []int{1, 2, 3, 4, 5, 6, 7, 8, 9, 10, 11, 12}
}

// spots tells all spots of a format, in order.
func spots(format int) []api.Spot {
	var l []api.Spot
	for _, group := range groupsOf(format) {
		for address := 1; address <= 33; address++ {
			l = append(l, api.Spot{Format: format, Group: group, Address: address})
		}
	}
	return l
}

// full tells a list of one number.
func full[N byte | int](many int, n N) []N {
	l := make([]N, many)
	for i := range l {
		l[i] = n
	}
	return l
}

// with tells 64 numbers that are one number, but at a place.
func with[N byte | int](all N, at int, n N) []N {
	l := full(64, all)
	l[at] = n
	return l
}

// chance is a row of numbers that look like chance and are always the same.
type chance uint64

func (c *chance) below(n int) int {
	*c = *c*6364136223846793005 + 1442695040888963407
	return int(uint64(*c) >> 33 % uint64(n))
}

// between tells a number of chance from one on up to another one.
func (c *chance) between(a, b int) int {
	return a + c.below(b-a+1)
}

// bytes tells so many bytes of chance.
func (c *chance) bytes(many int) []byte {
	b := make([]byte, many)
	for i := range b {
		b[i] = byte(c.below(256))
	}
	return b
}

// residue tells 64 numbers of chance, none farther from 0 than another one.
func (c *chance) residue(far int) []int {
	l := make([]int, 64)
	for i := range l {
		l[i] = c.between(-far, far)
	}
	return l
}

// spot tells a spot of chance.
func (c *chance) spot() api.Spot {
	l := spots(c.below(2))
	return l[c.below(len(l))]
}

// far tells numbers that lie far from any sample, format, group, address, block and residue; cut to fewer bits, or added to a sample or a place, some would be a small one.
func far() []int {
	l := []int{1<<20 + 2, 1 << 21, 1<<21 + 1, 1 << 24, 1 << 30, 1<<31 - 1, 1 << 31, 1<<31 + 1, 1<<31 + 77, 1 << 32, 1<<32 - 1, 1<<32 + 1, 1<<32 + 5, 1<<32 + 77, 1<<32 - 77, 1<<32 + edge, 1 << 40, 1 << 62, 1<<62 + 1, math.MaxInt, math.MaxInt - 1, math.MaxInt - 77, math.MaxInt - 254, math.MaxInt - 255, math.MaxInt - 256, math.MinInt, math.MinInt + 1, math.MinInt + 77}
	for _, n := range slices.Clone(l) {
		l = append(l, -n)
	}
	return l
}

// noFormats tells what is no format.
func noFormats() []int {
	return append([]int{-1, 2, -2, 3, 4, 255, 256, 257, 1 << 16, 1<<16 + 1}, far()...)
}

// noGroups tells what is no group of a format.
func noGroups(format int) []int {
	l := append([]int{0, -1, -2, -3, -5, -12, 13, 14, 15, 17, 256, 257, 1<<16 + 1}, far()...)
	if format == api.QCIF {
		return append(l, 2, 4, 6, 7, 9, 11, 12)
	}
	return l
}

// noAddresses tells what is no address.
func noAddresses() []int {
	return append([]int{0, 34, -1, -2, -11, -33, -34, 35, 44, 256, 257, 1<<16 + 1}, far()...)
}

// noBlocks tells what is no block.
func noBlocks() []int {
	return append([]int{0, 7, -1, -2, -3, -4, -5, -6, -7, 8, 9, 10, 256, 257, 1<<16 + 6}, far()...)
}

// noResidues tells what no number of a residue is.
func noResidues() []int {
	return append([]int{edge + 1, -edge - 1}, far()...)
}

// noSamples tells samples that are not 64.
func noSamples() [][]byte {
	l := [][]byte{nil, {}, {1, 2, 3}, make([]byte, 0, 64), make([]byte, 63, 64)}
	for _, many := range []int{1, 8, 16, 32, 63, 65, 128, 256, 384, 4096, 65600} {
		l = append(l, full(many, byte(77)))
	}
	return l
}

// noPictures tells bytes that are no picture of a format: none, too few, too many, its luma alone, the other format's.
func noPictures(format int) [][]byte {
	many := manyOf(format)
	return [][]byte{nil, {}, {1, 2, 3}, make([]byte, many-1), make([]byte, many-1, many), make([]byte, 0, many), make([]byte, many+1), make([]byte, many*2/3), make([]byte, many*2), make([]byte, manyOf(1-format))}
}

// plainClip tells a number, cut, by going to the nearest one of 256.
func plainClip(n int) byte {
	if n < 0 {
		return 0
	}
	for i := range 255 {
		if n == i {
			return byte(i)
		}
	}
	return 255
}

// plainAdd tells what Add must answer, by the words of the promise.
func plainAdd(samples []byte, residue []int) ([]byte, api.Errno) {
	if len(samples) != 64 || len(residue) != 64 {
		return nil, api.ErrArg
	}
	var l []byte
	for i, n := range residue {
		if n < -edge || n > edge {
			return nil, api.ErrRange
		}
		l = append(l, plainClip(int(samples[i])+n))
	}
	return l, api.OK
}

// plainPlaces tells at which bytes of a picture a block's 64 samples stand, by the words of the document.
func plainPlaces(s api.Spot, block int) []int {
	width, first := 176*(1+s.Format), 0
	right, down := (s.Address-1)%11*16, (s.Address-1)/11*16+(s.Group-1)/2*48
	if s.Format == api.CIF && s.Group%2 == 0 {
		right += 176
	}
	switch block {
	case 2:
		right += 8
	case 3:
		down += 8
	case 4:
		right, down = right+8, down+8
	case 5, 6:
		luma := manyOf(s.Format) * 2 / 3
		first, width, right, down = luma+luma/4*(block-5), width/2, right/2, down/2
	}
	var l []int
	for y := range 8 {
		for x := range 8 {
			l = append(l, first+width*(down+y)+right+x)
		}
	}
	return l
}

// plainSpot tells why bytes are not pictures of a spot's format.
func plainSpot(s api.Spot, all ...[]byte) api.Errno {
	if _, _, e := frame.Corner(s.Format, s.Group, s.Address); e != api.OK {
		return e
	}
	for _, b := range all {
		if len(b) != manyOf(s.Format) {
			return api.ErrArg
		}
	}
	return api.OK
}

// plainLay tells what Lay must answer, and does it.
func plainLay(b []byte, s api.Spot, block int, samples []byte) api.Errno {
	if e := plainSpot(s, b); e != api.OK {
		return e
	}
	if len(samples) != 64 {
		return api.ErrArg
	}
	if block < 1 || block > 6 {
		return api.ErrRange
	}
	for i, at := range plainPlaces(s, block) {
		b[at] = samples[i]
	}
	return api.OK
}

// plainCopy tells what Copy must answer, and does it.
func plainCopy(b, from []byte, s api.Spot) api.Errno {
	if e := plainSpot(s, b, from); e != api.OK {
		return e
	}
	for block := 1; block <= 6; block++ {
		for _, at := range plainPlaces(s, block) {
			b[at] = from[at]
		}
	}
	return api.OK
}

// clip looks whether Clip answers just this.
func clip(t *testing.T, n int, want byte) {
	t.Helper()
	if x := paint.Clip(n); x != want {
		t.Fatalf("Clip(%d): %d, not %d", n, x, want)
	}
}

// add looks whether Add answers just this, and leaves what it is handed.
func add(t *testing.T, samples []byte, residue []int, want []byte, err api.Errno) {
	t.Helper()
	wasSamples, wasResidue := slices.Clone(samples), slices.Clone(residue)
	l, e := paint.Add(samples, residue)
	if !bytes.Equal(l, want) || e != err {
		t.Fatalf("Add(%v, %v): %v, %d, not %v, %d", samples, residue, l, e, want, err)
	}
	if !bytes.Equal(samples, wasSamples) || !slices.Equal(residue, wasResidue) {
		t.Fatalf("Add(%v, %v) changed what was handed in", wasSamples, wasResidue)
	}
}

// flat looks whether Flat answers just this, and leaves what it is handed.
func flat(t *testing.T, residue []int, want []byte, err api.Errno) {
	t.Helper()
	was := slices.Clone(residue)
	l, e := paint.Flat(residue)
	if !bytes.Equal(l, want) || e != err {
		t.Fatalf("Flat(%v): %v, %d, not %v, %d", residue, l, e, want, err)
	}
	if !slices.Equal(residue, was) {
		t.Fatalf("Flat(%v) changed what was handed in", was)
	}
}

// lay looks whether Lay answers what the promise says and makes the picture another one's, which is laid by the words; all bytes are held against it.
func lay(t *testing.T, b, want []byte, s api.Spot, block int, samples []byte) api.Errno {
	t.Helper()
	was := slices.Clone(samples)
	err := plainLay(want, s, block, samples)
	if e := paint.Lay(b, s, block, samples); e != err {
		t.Fatalf("Lay(%d bytes, %v, %d, %d samples): %d, not %d", len(b), s, block, len(samples), e, err)
	}
	if !bytes.Equal(b, want) {
		t.Fatalf("Lay(%d bytes, %v, %d, %v): not the picture that it should be", len(b), s, block, samples)
	}
	if !bytes.Equal(samples, was) {
		t.Fatalf("Lay(%d bytes, %v, %d, %v) changed the samples", len(b), s, block, was)
	}
	return err
}

// copied looks whether Copy answers what the promise says and makes the picture another one's, which is copied by the words; all bytes of from are held against a third one's.
func copied(t *testing.T, b, want, from, wantFrom []byte, s api.Spot) api.Errno {
	t.Helper()
	err := plainCopy(want, wantFrom, s)
	if e := paint.Copy(b, from, s); e != err {
		t.Fatalf("Copy(%d bytes, %d bytes, %v): %d, not %d", len(b), len(from), s, e, err)
	}
	if !bytes.Equal(b, want) {
		t.Fatalf("Copy(%d bytes, %d bytes, %v): not the picture that it should be", len(b), len(from), s)
	}
	if !bytes.Equal(from, wantFrom) {
		t.Fatalf("Copy(%d bytes, %d bytes, %v) changed the other picture", len(b), len(from), s)
	}
	return err
}

func TestExamples(t *testing.T) {
	clip(t, -5, 0)
	clip(t, 300, 255)
	clip(t, 77, 77)
	if b := paint.Grey(0); len(b) != 38016 || b[38015] != 128 {
		t.Error(len(b))
	}
	if b := paint.Grey(2); len(b) != 0 {
		t.Error(len(b))
	}
	add(t, full(64, byte(250)), full(64, 9), full(64, byte(255)), api.OK)
	add(t, full(64, byte(3)), full(64, -9), full(64, byte(0)), api.OK)
	add(t, []byte{1, 2}, []int{1, 2}, nil, api.ErrArg)
	add(t, full(64, byte(3)), full(64, 1<<21), nil, api.ErrRange)
	flat(t, full(64, 77), full(64, byte(77)), api.OK)

	b, s := paint.Grey(api.QCIF), api.Spot{Format: api.QCIF, Group: 1, Address: 1}
	if e := paint.Lay(b, s, 1, full(64, byte(7))); e != api.OK || !bytes.Equal(b[:9], []byte{7, 7, 7, 7, 7, 7, 7, 7, 128}) || b[176] != 7 {
		t.Error(e, b[:9], b[176])
	}
	grey := paint.Grey(api.QCIF)
	for i, x := range []struct{ got, want api.Errno }{
		{paint.Lay(grey, s, 7, full(64, byte(7))), api.ErrRange},
		{paint.Lay([]byte{1, 2, 3}, s, 1, full(64, byte(7))), api.ErrArg},
		{paint.Copy(grey, []byte{1, 2, 3}, s), api.ErrArg},
		{paint.Copy(grey, grey, api.Spot{Format: api.QCIF, Group: 2, Address: 1}), api.ErrOrder},
	} {
		if x.got != x.want {
			t.Error(i, x.got, x.want)
		}
	}
	if !bytes.Equal(grey, full(38016, byte(128))) {
		t.Error("a picture was changed beside an error")
	}
}

// TestClip cuts numbers near both ends, all between them, and very large ones.
func TestClip(t *testing.T) {
	clip(t, -1, 0)
	clip(t, 0, 0)
	clip(t, 1, 1)
	clip(t, 254, 254)
	clip(t, 255, 255)
	clip(t, 256, 255)
	for n := -2000; n <= 2000; n++ {
		clip(t, n, plainClip(n))
	}
	for _, n := range append(far(), edge, -edge, edge+255, -edge+255, 511, 512, 1<<16-1, 1<<16, 1<<16+77) {
		if n < 0 {
			clip(t, n, 0)
		} else {
			clip(t, n, 255)
		}
	}
}

// TestGrey asks for both formats, and for others.
func TestGrey(t *testing.T) {
	for _, format := range formats() {
		_, _, many, _ := frame.Size(format)
		if b := paint.Grey(format); len(b) != many || len(b) != manyOf(format) || !bytes.Equal(b, full(many, byte(128))) {
			t.Error(format, len(b))
		}
	}
	for _, format := range noFormats() {
		if b := paint.Grey(format); len(b) != 0 {
			t.Error(format, len(b))
		}
	}
}

// TestAllSums adds each number from -600 to 600 to each sample.
func TestAllSums(t *testing.T) {
	for x := range 256 {
		for from := -600; from <= 600; from += 64 {
			samples, residue, want := full(64, byte(x)), make([]int, 64), make([]byte, 64)
			for i := range residue {
				residue[i] = from + i
				want[i] = plainClip(x + from + i)
			}
			add(t, samples, residue, want, api.OK)
		}
	}
	for from := -320; from <= 320; from += 64 {
		residue, want := make([]int, 64), make([]byte, 64)
		for i := range residue {
			residue[i] = from + i
			want[i] = plainClip(from + i)
		}
		flat(t, residue, want, api.OK)
	}
}

// TestEachPlace changes one sample, and one number, at each place: what is told changes there alone.
func TestEachPlace(t *testing.T) {
	for i := range 64 {
		add(t, with(byte(100), i, 30), full(64, -20), with(byte(80), i, 10), api.OK)
		add(t, full(64, byte(100)), with(-20, i, 30), with(byte(80), i, 130), api.OK)
		add(t, with(byte(100), i, 30), with(-20, (i+1)%64, 30), plainly(with(byte(100), i, 30), with(-20, (i+1)%64, 30)), api.OK)
		flat(t, with(7, i, 9), with(byte(7), i, 9), api.OK)
	}
}

// plainly tells a sum by the words of the promise.
func plainly(samples []byte, residue []int) []byte {
	l, _ := plainAdd(samples, residue)
	return l
}

// TestSumsByChance adds whatever may be.
func TestSumsByChance(t *testing.T) {
	c := chance(1)
	for range 3000 {
		samples, residue := c.bytes(64), c.residue(1<<c.below(21))
		add(t, samples, residue, plainly(samples, residue), api.OK)
		flat(t, residue, plainly(make([]byte, 64), residue), api.OK)
	}
}

// TestFlatIsAdd holds Flat against Add to noughts, with residues of all kinds.
func TestFlatIsAdd(t *testing.T) {
	c := chance(2)
	for _, r := range [][]int{nil, {}, {1}, full(63, 1), full(64, 1), full(65, 1), full(64, edge), full(64, -edge), with(0, 63, edge+1), with(0, 0, -edge-1), c.residue(255), c.residue(edge)} {
		want, e := paint.Add(make([]byte, 64), r)
		flat(t, r, want, e)
	}
}

// TestEdgesOfResidues hands the last numbers that may be, and the first ones that may not, at each place.
func TestEdgesOfResidues(t *testing.T) {
	for _, x := range []byte{0, 1, 77, 128, 254, 255} {
		add(t, full(64, x), full(64, edge), full(64, byte(255)), api.OK)
		add(t, full(64, x), full(64, -edge), full(64, byte(0)), api.OK)
		for i := range 64 {
			add(t, full(64, x), with(0, i, edge), with(x, i, 255), api.OK)
			add(t, full(64, x), with(0, i, -edge), with(x, i, 0), api.OK)
			add(t, full(64, x), with(0, i, edge+1), nil, api.ErrRange)
			add(t, full(64, x), with(0, i, -edge-1), nil, api.ErrRange)
		}
	}
	for i := range 64 {
		flat(t, with(7, i, edge), with(byte(7), i, 255), api.OK)
		flat(t, with(7, i, -edge), with(byte(7), i, 0), api.OK)
		for _, n := range noResidues() {
			add(t, full(64, byte(3)), with(0, i, n), nil, api.ErrRange)
			flat(t, with(0, i, n), nil, api.ErrRange)
		}
	}
	for _, n := range noResidues() {
		add(t, full(64, byte(3)), full(64, n), nil, api.ErrRange)
		flat(t, full(64, n), nil, api.ErrRange)
	}
}

// TestLengthsRefused hands samples, and residues, that are not 64: also where a number may not be.
func TestLengthsRefused(t *testing.T) {
	for _, samples := range noSamples() {
		add(t, samples, full(64, 1), nil, api.ErrArg)
		add(t, samples, full(64, edge+1), nil, api.ErrArg)
		add(t, samples, full(len(samples), 1), nil, api.ErrArg)
		add(t, full(64, byte(1)), full(len(samples), 1), nil, api.ErrArg)
		add(t, full(64, byte(1)), full(len(samples), -edge-1), nil, api.ErrArg)
		flat(t, full(len(samples), 1), nil, api.ErrArg)
		flat(t, full(len(samples), edge+1), nil, api.ErrArg)
	}
	add(t, full(64, byte(1)), nil, nil, api.ErrArg)
	add(t, full(64, byte(1)), make([]int, 63, 64), nil, api.ErrArg)
	add(t, full(128, byte(1)), []int{}, nil, api.ErrArg)
	add(t, full(63, byte(1)), full(65, 1), nil, api.ErrArg)
	add(t, full(65, byte(1)), full(63, 1), nil, api.ErrArg)
	flat(t, nil, nil, api.ErrArg)
	flat(t, make([]int, 0, 64), nil, api.ErrArg)
	flat(t, make([]int, 63, 64), nil, api.ErrArg)
}

// TestLay lays other samples at each block of each spot of both formats, one behind the other; all bytes are held against the words each time.
func TestLay(t *testing.T) {
	c := chance(3)
	for _, format := range formats() {
		b := c.bytes(manyOf(format))
		want := slices.Clone(b)
		for _, s := range spots(format) {
			for block := 1; block <= 6; block++ {
				if e := lay(t, b, want, s, block, c.bytes(64)); e != api.OK {
					t.Fatal(s, block, e)
				}
			}
		}
	}
}

// TestLayAtEdges lays at the first and the last spot, blocks 1 and 6, in a grey picture: the first and the last bytes are told by number.
func TestLayAtEdges(t *testing.T) {
	var samples []byte
	for i := range 64 {
		samples = append(samples, byte(i))
	}
	for _, x := range []struct{ format, group, address, block, first, row int }{
		{api.QCIF, 1, 1, 1, 0, 176},
		{api.QCIF, 1, 1, 2, 8, 176},
		{api.QCIF, 1, 1, 3, 1408, 176},
		{api.QCIF, 1, 1, 4, 1416, 176},
		{api.QCIF, 1, 1, 5, 25344, 88},
		{api.QCIF, 1, 1, 6, 31680, 88},
		{api.QCIF, 5, 33, 1, 22688, 176},
		{api.QCIF, 5, 33, 4, 24104, 176},
		{api.QCIF, 5, 33, 5, 31056, 88},
		{api.QCIF, 5, 33, 6, 37392, 88},
		{api.QCIF, 1, 2, 5, 25352, 88},
		{api.CIF, 1, 1, 1, 0, 352},
		{api.CIF, 1, 1, 5, 101376, 176},
		{api.CIF, 1, 1, 6, 126720, 176},
		{api.CIF, 2, 1, 1, 176, 352},
		{api.CIF, 12, 33, 4, 98904, 352},
		{api.CIF, 12, 33, 6, 150824, 176},
	} {
		b := paint.Grey(x.format)
		if e := paint.Lay(b, api.Spot{Format: x.format, Group: x.group, Address: x.address}, x.block, samples); e != api.OK {
			t.Fatal(x, e)
		}
		for i := range 8 {
			row := b[x.first+i*x.row:][:8]
			if !bytes.Equal(row, samples[8*i:8*i+8]) {
				t.Fatal(x, i, row)
			}
			copy(row, full(8, byte(128)))
		}
		if !bytes.Equal(b, full(len(b), byte(128))) {
			t.Fatal(x, "laid elsewhere too")
		}
	}
}

// TestLaidIsFetched fetches what was laid, by 0, 0; what stood at all other blocks stays.
func TestLaidIsFetched(t *testing.T) {
	c := chance(4)
	for range 300 {
		s, block, samples := c.spot(), 1+c.below(6), c.bytes(64)
		b := paint.Grey(s.Format)
		if e := paint.Lay(b, s, block, samples); e != api.OK {
			t.Fatal(s, block, e)
		}
		for other := 1; other <= 6; other++ {
			want := full(64, byte(128))
			if other == block {
				want = samples
			}
			if l, e := motion.Fetch(b, s, other, 0, 0); !bytes.Equal(l, want) || e != api.OK {
				t.Fatal(s, block, other, l, e)
			}
		}
		near := api.Spot{Format: s.Format, Group: s.Group, Address: s.Address%33 + 1}
		if l, _ := motion.Fetch(b, near, block, 0, 0); !bytes.Equal(l, full(64, byte(128))) {
			t.Fatal(s, block, l)
		}
	}
}

// TestAllLaid lays all blocks of a picture, fetched by 0, 0, in another one: it is the same then.
func TestAllLaid(t *testing.T) {
	c := chance(5)
	for _, format := range formats() {
		from, b := c.bytes(manyOf(format)), paint.Grey(format)
		for _, s := range spots(format) {
			for block := 1; block <= 6; block++ {
				samples, _ := motion.Fetch(from, s, block, 0, 0)
				if e := paint.Lay(b, s, block, samples); e != api.OK {
					t.Fatal(s, block, e)
				}
			}
		}
		if !bytes.Equal(b, from) {
			t.Error("not the other one", format)
		}
	}
}

// TestTwice lays, and copies, twice: it is the same as once.
func TestTwice(t *testing.T) {
	c := chance(6)
	for range 60 {
		s, block, samples := c.spot(), 1+c.below(6), c.bytes(64)
		b, from := c.bytes(manyOf(s.Format)), c.bytes(manyOf(s.Format))
		want, wantFrom := slices.Clone(b), slices.Clone(from)
		lay(t, b, want, s, block, samples)
		once := slices.Clone(b)
		lay(t, b, want, s, block, samples)
		if !bytes.Equal(b, once) {
			t.Fatal("laid twice", s, block)
		}
		copied(t, b, want, from, wantFrom, s)
		once = slices.Clone(b)
		copied(t, b, want, from, wantFrom, s)
		if !bytes.Equal(b, once) {
			t.Fatal("copied twice", s)
		}
	}
}

// TestCopy copies all spots of both formats, one behind the other; all bytes of both pictures are held against the words each time, and at last the picture is the other one.
func TestCopy(t *testing.T) {
	c := chance(7)
	for _, format := range formats() {
		b, from := c.bytes(manyOf(format)), c.bytes(manyOf(format))
		for i := range b {
			// No sample of both is the same: a copied one can be told.
			if b[i] == from[i] {
				b[i] ^= 1
			}
		}
		want, wantFrom := slices.Clone(b), slices.Clone(from)
		for i, s := range spots(format) {
			if bytes.Equal(b, from) {
				t.Fatal("the other one after", i)
			}
			if e := copied(t, b, want, from, wantFrom, s); e != api.OK {
				t.Fatal(s, e)
			}
		}
		if !bytes.Equal(b, from) {
			t.Error("not the other one", format)
		}
	}
}

// TestCopyChangesASpot copies a picture of others all over: just the spot's 384 samples change.
func TestCopyChangesASpot(t *testing.T) {
	for _, format := range formats() {
		b, from := make([]byte, manyOf(format)), full(manyOf(format), byte(255))
		for _, s := range spots(format) {
			if e := paint.Copy(b, from, s); e != api.OK || bytes.Count(b, []byte{255}) != 384 {
				t.Fatal(s, e)
			}
			for block := 1; block <= 6; block++ {
				for _, at := range plainPlaces(s, block) {
					if b[at] != 255 {
						t.Fatal(s, block, at)
					}
					b[at] = 0
				}
			}
		}
	}
}

// TestCopyOntoItself copies a picture's spots from the same memory: nothing changes.
func TestCopyOntoItself(t *testing.T) {
	c := chance(8)
	for _, format := range formats() {
		b := c.bytes(manyOf(format))
		was := slices.Clone(b)
		for _, s := range spots(format) {
			if e := paint.Copy(b, b, s); e != api.OK || !bytes.Equal(b, was) {
				t.Fatal(s, e)
			}
		}
	}
}

// TestCopyOfSharedMemory copies from a picture that begins some bytes farther on, or ahead, in the same memory: what stands in b is what stood in from.
func TestCopyOfSharedMemory(t *testing.T) {
	c := chance(9)
	for _, format := range formats() {
		many := manyOf(format)
		for _, away := range []int{1, 7, 8, 9, 88, 176, 177, 352, 704, 1408, 25344} {
			for range 4 {
				room := c.bytes(many + away)
				l := spots(format)
				s := l[c.below(len(l))]
				for _, from := range []int{0, away} {
					memory := slices.Clone(room)
					want := slices.Clone(room[away-from:][:many])
					plainCopy(want, room[from:][:many], s)
					if e := paint.Copy(memory[away-from:][:many], memory[from:][:many], s); e != api.OK || !bytes.Equal(memory[away-from:][:many], want) {
						t.Fatal(s, away, from, e)
					}
				}
			}
		}
	}
}

// TestLayOfThePicture lays samples that are a piece of the picture: what stands there is what they were.
func TestLayOfThePicture(t *testing.T) {
	c := chance(10)
	for range 200 {
		s, block := c.spot(), 1+c.below(6)
		b := c.bytes(manyOf(s.Format))
		want := slices.Clone(b)
		places := plainPlaces(s, block)
		at := max(0, places[8*c.below(8)]-c.below(64))
		at = min(at, len(b)-64)
		plainLay(want, s, block, slices.Clone(b[at:at+64]))
		if e := paint.Lay(b, s, block, b[at:at+64]); e != api.OK || !bytes.Equal(b, want) {
			t.Fatal(s, block, at, e)
		}
	}
}

// TestMemoryAround lays and copies in a picture with other bytes ahead of it and behind its end, which stay and do not matter.
func TestMemoryAround(t *testing.T) {
	c := chance(11)
	for _, format := range formats() {
		many := manyOf(format)
		room, other := c.bytes(many+2000), c.bytes(many+2000)
		want, wantOther := slices.Clone(room), slices.Clone(other)
		whole := func() {
			t.Helper()
			if !bytes.Equal(room, want) || !bytes.Equal(other, wantOther) {
				t.Fatal("bytes around were changed")
			}
		}
		l := spots(format)
		for _, s := range []api.Spot{l[0], l[10], l[32], l[len(l)-11], l[len(l)-1], l[c.below(len(l))]} {
			for block := 1; block <= 6; block++ {
				lay(t, room[1000:][:many], want[1000:][:many], s, block, c.bytes(65)[:64])
				whole()
			}
			copied(t, room[1000:][:many], want[1000:][:many], other[1000:][:many], wantOther[1000:][:many], s)
			whole()
			copied(t, room[1000:][:many:many], want[1000:][:many], other[1000:][:many:many], wantOther[1000:][:many], s)
			whole()
			// A byte too few, though another one stands behind.
			if e := paint.Lay(room[1000:][:many-1], s, 6, full(64, byte(9))); e != api.ErrArg {
				t.Fatal(e)
			}
			if e := paint.Copy(room[1000:][:many], other[1000:][:many-1], s); e != api.ErrArg {
				t.Fatal(e)
			}
			whole()
		}
	}
}

// refused looks whether Lay and Copy tell just this error, whatever else is handed that is right, and change nothing.
func refused(t *testing.T, b []byte, s api.Spot, err api.Errno) {
	t.Helper()
	was := slices.Clone(b)
	for _, samples := range [][]byte{full(64, byte(9)), nil, full(63, byte(9))} {
		for _, block := range []int{1, 6, 0, 7, math.MinInt} {
			if e := paint.Lay(b, s, block, samples); e != err {
				t.Fatal(s, block, len(samples), e, "not", err)
			}
		}
	}
	for _, other := range [][]byte{full(len(b), byte(9)), nil, {1, 2, 3}} {
		if e := paint.Copy(b, other, s); e != err {
			t.Fatal(s, len(other), e, "not", err)
		}
		if e := paint.Copy(other, b, s); e != err {
			t.Fatal(s, len(other), e, "not", err)
		}
	}
	if !bytes.Equal(b, was) {
		t.Fatal(s, "changed a picture beside an error")
	}
}

// TestSpotsRefused hands spots that no picture has, with whatever else.
func TestSpotsRefused(t *testing.T) {
	small := paint.Grey(api.QCIF)
	for _, format := range noFormats() {
		refused(t, small, api.Spot{Format: format, Group: 1, Address: 1}, api.ErrRange)
		refused(t, small, api.Spot{Format: format, Group: 14, Address: 34}, api.ErrRange)
		refused(t, nil, api.Spot{Format: format, Group: 2, Address: 0}, api.ErrRange)
	}
	for _, format := range formats() {
		b := paint.Grey(format)
		for _, group := range noGroups(format) {
			refused(t, b, api.Spot{Format: format, Group: group, Address: 1}, api.ErrOrder)
			refused(t, b[1:], api.Spot{Format: format, Group: group, Address: 0}, api.ErrOrder)
		}
		for _, group := range groupsOf(format) {
			for _, address := range noAddresses() {
				refused(t, b[:9], api.Spot{Format: format, Group: group, Address: address}, api.ErrAddress)
			}
			refused(t, b, api.Spot{Format: format, Group: group, Address: 0}, api.ErrAddress)
			refused(t, b, api.Spot{Format: format, Group: group, Address: 34}, api.ErrAddress)
		}
	}
}

// TestPicturesRefused hands bytes that are no picture of the format, as either one.
func TestPicturesRefused(t *testing.T) {
	for _, format := range formats() {
		l := spots(format)
		good := paint.Grey(format)
		for _, s := range []api.Spot{l[0], l[17], l[len(l)-1]} {
			for _, b := range noPictures(format) {
				was := slices.Clone(b)
				for _, block := range []int{1, 4, 5, 6, 0, 7} {
					if e := paint.Lay(b, s, block, full(64, byte(9))); e != api.ErrArg {
						t.Fatal(s, len(b), block, e)
					}
				}
				for _, e := range []api.Errno{paint.Copy(b, good, s), paint.Copy(good, b, s), paint.Copy(b, b, s), paint.Copy(b, full(len(b), byte(9)), s)} {
					if e != api.ErrArg {
						t.Fatal(s, len(b), e)
					}
				}
				if !bytes.Equal(b, was) {
					t.Fatal(s, len(b), "changed beside an error")
				}
			}
		}
		if !bytes.Equal(good, full(len(good), byte(128))) {
			t.Fatal("changed beside an error", format)
		}
	}
}

// TestSamplesRefused lays samples that are not 64, also at what is no block.
func TestSamplesRefused(t *testing.T) {
	for _, format := range formats() {
		b := paint.Grey(format)
		for _, samples := range noSamples() {
			for _, block := range []int{1, 6, 0, 7, -1, math.MaxInt} {
				if e := paint.Lay(b, spots(format)[0], block, samples); e != api.ErrArg {
					t.Fatal(format, block, len(samples), e)
				}
			}
		}
		if !bytes.Equal(b, full(len(b), byte(128))) {
			t.Fatal("changed beside an error", format)
		}
	}
}

// TestBlocksRefused lays at what is no block.
func TestBlocksRefused(t *testing.T) {
	for _, format := range formats() {
		b := paint.Grey(format)
		l := spots(format)
		for _, s := range []api.Spot{l[0], l[17], l[len(l)-1]} {
			for _, block := range noBlocks() {
				if e := paint.Lay(b, s, block, full(64, byte(9))); e != api.ErrRange {
					t.Fatal(s, block, e)
				}
			}
		}
		if !bytes.Equal(b, full(len(b), byte(128))) {
			t.Fatal("changed beside an error", format)
		}
	}
}

// TestOrderOfErrors hands right and wrong things in all ways they go together.
func TestOrderOfErrors(t *testing.T) {
	laid, taken := map[api.Errno]int{}, map[api.Errno]int{}
	p := [][]byte{nil, make([]byte, 38016), make([]byte, 152064)}
	q := [][]byte{nil, full(38016, byte(9)), full(152064, byte(9))}
	for _, format := range []int{-1, 0, 1, 2} {
		for _, group := range []int{-1, 0, 1, 2, 5, 12, 13} {
			for _, address := range []int{-1, 0, 1, 33, 34} {
				s := api.Spot{Format: format, Group: group, Address: address}
				for i, b := range p {
					want := slices.Clone(b)
					for _, block := range []int{-1, 0, 1, 6, 7} {
						for _, many := range []int{0, 63, 64, 65} {
							laid[lay(t, b, want, s, block, full(many, byte(many)))]++
						}
					}
					for _, from := range q {
						taken[copied(t, p[i], want, from, from, s)]++
					}
				}
			}
		}
	}
	if len(laid) != 5 || len(taken) != 5 {
		t.Error("some answer never came", laid, taken)
	}
	// Of a residue both could be told.
	add(t, full(63, byte(1)), full(64, edge+1), nil, api.ErrArg)
	add(t, full(64, byte(1)), full(65, edge+1), nil, api.ErrArg)
	flat(t, full(63, -edge-1), nil, api.ErrArg)
}

// answers tells what all calls that answer lists answer.
func answers(samples []byte, residue []int) [][]byte {
	sums, _ := paint.Add(samples, residue)
	alone, _ := paint.Flat(residue)
	return [][]byte{paint.Grey(api.QCIF), paint.Grey(api.CIF), sums, alone}
}

// TestAnswersAreNew changes what was answered, and its spare room: neither what was handed in nor another answer changes.
func TestAnswersAreNew(t *testing.T) {
	samples := append(make([]byte, 0, 80), full(64, byte(100))...)
	residue := append(make([]int, 0, 80), full(64, -23)...)
	want := [][]byte{full(38016, byte(128)), full(152064, byte(128)), full(64, byte(77)), full(64, byte(0))}
	kept := answers(samples, residue)
	for range 3 {
		for i, l := range answers(samples, residue) {
			if !bytes.Equal(l, want[i]) {
				t.Fatal(i, l)
			}
			l = l[:cap(l)]
			for j := range l {
				l[j] = 99
			}
		}
		if !slices.EqualFunc(kept, want, bytes.Equal) {
			t.Fatal("changing an answer changed another one")
		}
		if !bytes.Equal(samples, full(64, byte(100))) || !slices.Equal(residue, full(64, -23)) {
			t.Fatal("what was handed in was changed", samples, residue)
		}
		if !bytes.Equal(samples[64:80], make([]byte, 16)) || !slices.Equal(residue[64:80], make([]int, 16)) {
			t.Fatal("spare room was written")
		}
	}
}

// TestHandedInIsNotKept changes what was handed in: what was answered, and what was laid, stays.
func TestHandedInIsNotKept(t *testing.T) {
	samples, residue := full(64, byte(100)), full(64, -23)
	sums, _ := paint.Add(samples, residue)
	alone, _ := paint.Flat(full(64, 5))
	b, from, s := paint.Grey(api.QCIF), full(38016, byte(9)), api.Spot{Group: 3, Address: 17}
	other := api.Spot{Group: 3, Address: 18}
	paint.Lay(b, s, 2, samples)
	paint.Copy(b, from, other)
	was := slices.Clone(b)
	clear(samples)
	clear(residue)
	clear(from)
	if !bytes.Equal(sums, full(64, byte(77))) || !bytes.Equal(alone, full(64, byte(5))) || !bytes.Equal(b, was) {
		t.Error("what was answered changed", sums, alone)
	}
	// And the picture is not kept: another one is laid into alone.
	paint.Lay(paint.Grey(api.QCIF), s, 2, full(64, byte(1)))
	paint.Copy(paint.Grey(api.QCIF), from, other)
	if !bytes.Equal(b, was) {
		t.Error("the picture was changed by a later call")
	}
}

// TestSpareRoomIsNotRead hands pieces of longer lists: what stands behind them does not matter.
func TestSpareRoomIsNotRead(t *testing.T) {
	samples, residue := append(full(64, byte(100)), 200, 201), append(full(64, -23), edge+1, -edge-1)
	add(t, samples[:64], residue[:64], full(64, byte(77)), api.OK)
	add(t, samples[:63], residue[:64], nil, api.ErrArg)
	add(t, samples[:64], residue[:63], nil, api.ErrArg)
	add(t, samples[:64], residue[1:65], nil, api.ErrRange)
	add(t, samples[1:65], residue[:64], with(byte(77), 63, 177), api.OK)
	flat(t, residue[:64], make([]byte, 64), api.OK)
	flat(t, residue[:65], nil, api.ErrArg)
	if samples[64] != 200 || residue[65] != -edge-1 {
		t.Error("what stands behind was changed")
	}
}

// TestAnswersStay asks again and again, also for wrong things: no call tells on another one.
func TestAnswersStay(t *testing.T) {
	b, from := paint.Grey(api.QCIF), full(38016, byte(9))
	want, wantFrom := slices.Clone(b), slices.Clone(from)
	l := spots(api.QCIF)
	for i := range 99 {
		clip(t, i-50, plainClip(i-50))
		add(t, full(64, byte(i)), with(i, i%64, edge+1), nil, api.ErrRange)
		add(t, full(64, byte(i)), full(64, i), full(64, byte(2*i)), api.OK)
		add(t, full(65, byte(i)), full(64, i), nil, api.ErrArg)
		flat(t, full(64, -i), make([]byte, 64), api.OK)
		lay(t, b, want, l[i], 7, full(64, byte(i)))
		lay(t, b, want, l[i], 1+i%6, full(64, byte(i)))
		copied(t, b, want, from, wantFrom, l[98-i])
		copied(t, b, want, from[1:], wantFrom[1:], l[i])
		lay(t, b, want, api.Spot{Group: 2, Address: 1 + i%33}, 1, full(64, byte(i)))
		if len(paint.Grey(i%2)) != manyOf(i%2) || len(paint.Grey(i+2)) != 0 {
			t.Fatal(i)
		}
	}
}

func BenchmarkAdd(b *testing.B) {
	c := chance(12)
	samples, residue := c.bytes(64), c.residue(300)
	for b.Loop() {
		paint.Add(samples, residue)
	}
}

func BenchmarkLay(b *testing.B) {
	c := chance(13)
	p, samples := c.bytes(152064), c.bytes(64)
	for b.Loop() {
		paint.Lay(p, api.Spot{Format: api.CIF, Group: 7, Address: 17}, 4, samples)
	}
}

func BenchmarkCopy(b *testing.B) {
	c := chance(14)
	p, from := c.bytes(152064), c.bytes(152064)
	for b.Loop() {
		paint.Copy(p, from, api.Spot{Format: api.CIF, Group: 7, Address: 17})
	}
}
