package queue_test

import (
	"bytes"
	"math"
	"testing"

	"praxinoscope/api"
	"praxinoscope/queue"
)

// chance is a row of numbers that look like chance and are always the same.
type chance uint64

func (c *chance) below(n int) int {
	*c = *c*6364136223846793005 + 1442695040888963407
	return int(uint64(*c) >> 33 % uint64(n))
}

// some tells so many bytes of chance.
func (c *chance) some(n int) []byte {
	b := make([]byte, n)
	for i := range b {
		b[i] = byte(c.below(256))
	}
	return b
}

// state is all that a queue tells.
type state struct {
	bits             []byte
	place            int
	left, free       int
	ended            bool
	came, gone, most int
}

// look asks a queue for all that it tells; most is not asked, but what it must come to.
func look(q *queue.Queue) state {
	b, at := q.Bits()
	return state{b, at, q.Left(), q.Free(), q.Ended(), q.Came(), q.Gone(), q.Free() + len(b)}
}

// same looks whether two states are one.
func (s state) same(o state) bool {
	return bytes.Equal(s.bits, o.bits) && s.place == o.place && s.left == o.left && s.free == o.free && s.ended == o.ended && s.came == o.came && s.gone == o.gone && s.most == o.most
}

// expect looks whether a queue tells just a state.
func expect(t *testing.T, q *queue.Queue, want state) {
	t.Helper()
	if got := look(q); !got.same(want) {
		t.Fatalf("the queue tells %+v, not %+v", got, want)
	}
}

// made tells a queue with room for so many bytes.
func made(t *testing.T, most int) *queue.Queue {
	t.Helper()
	q, e := queue.New(most)
	if e != api.OK || q == nil {
		t.Fatalf("New(%d): %v, %d", most, q, e)
	}
	return q
}

// feed feeds bytes of which so many must be taken.
func feed(t *testing.T, q *queue.Queue, want int, b ...byte) {
	t.Helper()
	if n, e := q.Feed(b); n != want || e != api.OK {
		t.Fatalf("Feed of %d bytes: %d, %d, not %d", len(b), n, e, want)
	}
}

// skip reads so many bits, and must be answered want.
func skip(t *testing.T, q *queue.Queue, n int, want api.Errno) {
	t.Helper()
	if e := q.Skip(n); e != want {
		t.Fatalf("Skip(%d): %d, not %d", n, e, want)
	}
}

func TestExamples(t *testing.T) {
	q := made(t, 3)
	feed(t, q, 3, 1, 2, 3, 4)
	expect(t, q, state{[]byte{1, 2, 3}, 0, 24, 0, false, 3, 0, 3})
	skip(t, q, 12, api.OK)
	expect(t, q, state{[]byte{2, 3}, 4, 12, 1, false, 3, 12, 3})
	feed(t, q, 1, 9, 9)
	expect(t, q, state{[]byte{2, 3, 9}, 4, 20, 0, false, 4, 12, 3})
	skip(t, q, 21, api.ErrRange)
	skip(t, q, 20, api.OK)
	expect(t, q, state{nil, 0, 0, 3, false, 4, 32, 3})
	if e := q.End(); e != api.OK {
		t.Error("End", e)
	}
	if e := q.End(); e != api.ErrDone {
		t.Error("End again", e)
	}
	for _, b := range [][]byte{{1}, nil, {}} {
		if n, e := q.Feed(b); n != 0 || e != api.ErrDone {
			t.Errorf("Feed(%v) behind the end: %d, %d", b, n, e)
		}
	}
	expect(t, q, state{nil, 0, 0, 3, true, 4, 32, 3})
}

func TestNew(t *testing.T) {
	for _, most := range []int{1, 2, 7, 8, 1024, 1<<20 - 1, 1 << 20} {
		expect(t, made(t, most), state{nil, 0, 0, most, false, 0, 0, most})
	}
	for _, most := range []int{0, -1, math.MinInt, 1<<20 + 1, 1 << 21, math.MaxInt} {
		if q, e := queue.New(most); q != nil || e != api.ErrRange {
			t.Errorf("New(%d): %v, %d", most, q, e)
		}
	}
}

func TestFeedTakesWhatThereIsRoomFor(t *testing.T) {
	q := made(t, 4)
	feed(t, q, 0)
	expect(t, q, state{nil, 0, 0, 4, false, 0, 0, 4})
	feed(t, q, 3, 5, 6, 7)
	feed(t, q, 1, 8, 9, 10)
	expect(t, q, state{[]byte{5, 6, 7, 8}, 0, 32, 0, false, 4, 0, 4})
	feed(t, q, 0, 11)
	feed(t, q, 0)
	expect(t, q, state{[]byte{5, 6, 7, 8}, 0, 32, 0, false, 4, 0, 4})
	skip(t, q, 7, api.OK)
	feed(t, q, 0, 12)
	expect(t, q, state{[]byte{5, 6, 7, 8}, 7, 25, 0, false, 4, 7, 4})
	skip(t, q, 1, api.OK)
	expect(t, q, state{[]byte{6, 7, 8}, 0, 24, 1, false, 4, 8, 4})
	feed(t, q, 1, 13, 14)
	expect(t, q, state{[]byte{6, 7, 8, 13}, 0, 32, 0, false, 5, 8, 4})
}

func TestSkip(t *testing.T) {
	q := made(t, 4)
	for _, n := range []int{1, 8, math.MaxInt, -1, math.MinInt} {
		skip(t, q, n, api.ErrRange)
	}
	skip(t, q, 0, api.OK)
	expect(t, q, state{nil, 0, 0, 4, false, 0, 0, 4})
	feed(t, q, 2, 170, 85)
	for _, n := range []int{17, math.MaxInt, -1, -16, math.MinInt} {
		skip(t, q, n, api.ErrRange)
		expect(t, q, state{[]byte{170, 85}, 0, 16, 2, false, 2, 0, 4})
	}
	skip(t, q, 0, api.OK)
	skip(t, q, 3, api.OK)
	for _, n := range []int{14, -1, -3} {
		skip(t, q, n, api.ErrRange)
		expect(t, q, state{[]byte{170, 85}, 3, 13, 2, false, 2, 3, 4})
	}
	skip(t, q, 13, api.OK)
	expect(t, q, state{nil, 0, 0, 4, false, 2, 16, 4})
}

// TestEndLeavesWhatIsThere ends a queue that has bits: they are read as if it were not.
func TestEndLeavesWhatIsThere(t *testing.T) {
	q := made(t, 3)
	feed(t, q, 2, 3, 4)
	skip(t, q, 5, api.OK)
	if e := q.End(); e != api.OK {
		t.Fatal("End", e)
	}
	ended := state{[]byte{3, 4}, 5, 11, 1, true, 2, 5, 3}
	expect(t, q, ended)
	for _, b := range [][]byte{{1}, nil, {1, 2, 3, 4}} {
		if n, e := q.Feed(b); n != 0 || e != api.ErrDone {
			t.Errorf("Feed(%v): %d, %d", b, n, e)
		}
		expect(t, q, ended)
	}
	if e := q.End(); e != api.ErrDone {
		t.Error("End again", e)
	}
	expect(t, q, ended)
	skip(t, q, 12, api.ErrRange)
	skip(t, q, 11, api.OK)
	expect(t, q, state{nil, 0, 0, 3, true, 2, 16, 3})
}

// TestEndOfAFullQueue asks for the order of what Feed answers: that it is ended comes ahead of how much room there is.
func TestEndOfAFullQueue(t *testing.T) {
	q := made(t, 1)
	feed(t, q, 1, 7)
	q.End()
	if n, e := q.Feed([]byte{8}); n != 0 || e != api.ErrDone {
		t.Error(n, e)
	}
	expect(t, q, state{[]byte{7}, 0, 8, 0, true, 1, 0, 1})
}

// TestQueueThatIsNone asks queues that New did not answer: a copy of one is none either, for it would share its bytes.
func TestQueueThatIsNone(t *testing.T) {
	q := made(t, 3)
	feed(t, q, 2, 1, 2)
	skip(t, q, 3, api.OK)
	live := *q
	over := made(t, 3)
	over.End()
	ended := *over
	for name, none := range map[string]*queue.Queue{"nil": nil, "zero": {}, "new": new(queue.Queue), "copy": &live, "ended copy": &ended} {
		for _, b := range [][]byte{nil, {}, {1}, {1, 2, 3, 4}} {
			if n, e := none.Feed(b); n != 0 || e != api.ErrNil {
				t.Errorf("%s: Feed(%v): %d, %d", name, b, n, e)
			}
		}
		for _, n := range []int{0, 1, -1, 17, math.MaxInt, math.MinInt} {
			if e := none.Skip(n); e != api.ErrNil {
				t.Errorf("%s: Skip(%d): %d", name, n, e)
			}
		}
		for range 2 {
			if e := none.End(); e != api.ErrNil {
				t.Errorf("%s: End: %d", name, e)
			}
		}
		expect(t, none, state{})
	}
	expect(t, q, state{[]byte{1, 2}, 3, 13, 1, false, 2, 3, 3})
}

// TestBitsAreNewMemory changes what a queue answered, its spare room too: neither the queue nor a later answer may tell.
func TestBitsAreNewMemory(t *testing.T) {
	q := made(t, 4)
	feed(t, q, 4, 1, 2, 3, 4)
	skip(t, q, 17, api.OK)
	feed(t, q, 1, 5)
	a, _ := q.Bits()
	b, _ := q.Bits()
	a = a[:cap(a)]
	for i := range a {
		a[i] = 255
	}
	feed(t, q, 1, 6)
	if !bytes.Equal(b, []byte{3, 4, 5}) {
		t.Error("an answer was changed", b)
	}
	expect(t, q, state{[]byte{3, 4, 5, 6}, 1, 31, 0, false, 6, 17, 4})
}

// TestFeedKeepsNothing changes bytes when they were fed, and feeds a beginning of others: what is behind it is neither read nor written.
func TestFeedKeepsNothing(t *testing.T) {
	q := made(t, 4)
	all := []byte{1, 2, 3, 4}
	if n, e := q.Feed(all[:2]); n != 2 || e != api.OK {
		t.Fatal(n, e)
	}
	if !bytes.Equal(all, []byte{1, 2, 3, 4}) {
		t.Error("what was fed was changed", all)
	}
	all[0], all[1], all[2] = 9, 9, 9
	expect(t, q, state{[]byte{1, 2}, 0, 16, 2, false, 2, 0, 4})
	skip(t, q, 16, api.OK)
	feed(t, q, 4, 5, 6, 7, 8)
	if !bytes.Equal(all, []byte{9, 9, 9, 4}) {
		t.Error("what was fed was written", all)
	}
}

// TestQueuesShareNothing feeds two by turns.
func TestQueuesShareNothing(t *testing.T) {
	p, q := made(t, 3), made(t, 3)
	feed(t, p, 2, 1, 2)
	feed(t, q, 3, 7, 8, 9)
	p.End()
	skip(t, q, 9, api.OK)
	expect(t, p, state{[]byte{1, 2}, 0, 16, 1, true, 2, 0, 3})
	expect(t, q, state{[]byte{8, 9}, 1, 15, 1, false, 3, 9, 3})
}

// TestAsNew reads a queue empty at every place of its ring: it takes and tells as much as one that is new.
func TestAsNew(t *testing.T) {
	for most := 1; most < 9; most++ {
		c, q, came := chance(most), made(t, most), 0
		for range 40 {
			n := 1 + c.below(most)
			feed(t, q, n, c.some(n)...)
			skip(t, q, 8*n, api.OK)
			came += n
			expect(t, q, state{nil, 0, 0, most, false, came, 8 * came, most})
			b := c.some(most)
			feed(t, q, most, append(b[:most:most], 1, 2)...)
			came += most
			expect(t, q, state{b, 0, 8 * most, 0, false, came, 8 * (came - most), most})
			skip(t, q, 8*most, api.OK)
		}
	}
}

// against is all bytes that a queue took, and how many of their bits were read: what a queue must tell, the plain way.
type against struct {
	most, gone int
	all        []byte
}

func (a *against) state() state {
	there := a.all[a.gone/8:]
	return state{there, a.gone % 8, 8*len(a.all) - a.gone, a.most - len(there), false, len(a.all), a.gone, a.most}
}

// feed feeds a queue so many bytes, of which there may be room for some alone.
func (a *against) feed(t *testing.T, q *queue.Queue, b []byte) {
	t.Helper()
	want := min(len(b), a.state().free)
	feed(t, q, want, b...)
	a.all = append(a.all, b[:want]...)
}

// skip reads so many bits, or is refused.
func (a *against) skip(t *testing.T, q *queue.Queue, n int) {
	t.Helper()
	if n < 0 || n > a.state().left {
		skip(t, q, n, api.ErrRange)
		return
	}
	skip(t, q, n, api.OK)
	a.gone += n
}

// TestInWhateverPieces feeds and reads by chance: what is told is always what came, and was not read.
func TestInWhateverPieces(t *testing.T) {
	c := chance(11)
	for round := range 300 {
		most := 1 + c.below(1+round%17)
		q, a := made(t, most), &against{most: most}
		for range 100 {
			if c.below(2) == 0 {
				a.feed(t, q, c.some(c.below(most+3)))
			} else {
				a.skip(t, q, c.below(8*most+3)-1)
			}
			expect(t, q, a.state())
		}
	}
}

// TestBitByBit feeds a stream in pieces of one length, and reads it in pieces of another one: the bits are those of the stream.
func TestBitByBit(t *testing.T) {
	c := chance(5)
	stream := c.some(120)
	for piece := 1; piece <= 9; piece++ {
		for step := 1; step <= 23; step++ {
			q, rest, at := made(t, 5), stream, 0
			for at < 8*len(stream) {
				n, _ := q.Feed(rest[:min(piece, len(rest))])
				rest = rest[n:]
				b, place := q.Bits()
				n = min(step, q.Left())
				for i := range n {
					if bit(b, place+i) != bit(stream, at+i) {
						t.Fatalf("pieces of %d, steps of %d: bit %d is another one", piece, step, at+i)
					}
				}
				skip(t, q, n, api.OK)
				at += n
				if q.Gone() != at || q.Gone()+q.Left() != 8*q.Came() {
					t.Fatalf("%d and %d bits of %d bytes, %d were read", q.Gone(), q.Left(), q.Came(), at)
				}
			}
		}
	}
}

// bit tells the bit at a place.
func bit(b []byte, at int) byte {
	return b[at/8] >> (7 - at%8) & 1
}

// TestGreatest fills the greatest queue, and goes round in it.
func TestGreatest(t *testing.T) {
	c := chance(3)
	q, a := made(t, api.MaxQueue), &against{most: api.MaxQueue}
	a.feed(t, q, c.some(api.MaxQueue+1))
	expect(t, q, a.state())
	a.skip(t, q, 8*(api.MaxQueue-3)+5)
	expect(t, q, a.state())
	a.feed(t, q, c.some(api.MaxQueue))
	expect(t, q, a.state())
	a.skip(t, q, 8*api.MaxQueue-5)
	expect(t, q, a.state())
}
