package epoch

import (
	"math"
	"math/bits"
	"slices"
	"testing"

	"supercargo/api"
)

// draw gives the same numbers each time.
type draw uint64

func (d *draw) below(n int) int {
	*d = *d*6364136223846793005 + 1442695040888963407
	return int(uint64(*d) >> 33 % uint64(n))
}

// of: epochs with those members, one behind the other.
func of(members ...uint64) []api.Epoch {
	var l []api.Epoch
	for place, m := range members {
		l = append(l, api.Epoch{No: place + 1, Members: m})
	}
	return l
}

// many epochs: one node stays, another one comes and goes.
func many(epochs int) []api.Epoch {
	var l []api.Epoch
	for place := range epochs {
		l = append(l, api.Epoch{No: place + 1, Members: 1<<4 | uint64(place%2)<<11})
	}
	return l
}

// some lists that are good.
func some() [][]api.Epoch {
	return [][]api.Epoch{nil, {}, of(1), of(1 << 11), of(4095), of(7, 15, 14), of(7, 3, 1), of(1, 3, 2, 6, 4), of(4095, 2047, 4095), of(5, 4, 5, 4), many(2), many(63), many(64)}
}

// bad: epochs, and what Check answers of them.
type bad struct {
	l    []api.Epoch
	want api.Errno
}

// bads: each limit, and of several faults the one that P5 names first.
func bads() []bad {
	all := []bad{
		{make([]api.Epoch, 65), api.ErrMany},
		{many(65), api.ErrMany},
		{make([]api.Epoch, 1000), api.ErrMany},
		{make([]api.Epoch, 64), api.ErrState},
		{[]api.Epoch{{No: 0, Members: 1}}, api.ErrState},
		{[]api.Epoch{{No: 2, Members: 1}}, api.ErrState},
		{[]api.Epoch{{No: -1, Members: 1 << 12}}, api.ErrState},
		{[]api.Epoch{{No: math.MaxInt}}, api.ErrState},
		{[]api.Epoch{{No: 1, Members: 1}, {No: 1, Members: 3}}, api.ErrState},
		{[]api.Epoch{{No: 1, Members: 1}, {No: 3, Members: 3}}, api.ErrState},
		{[]api.Epoch{{No: 1, Members: 1}, {No: math.MinInt, Members: 1 << 63}}, api.ErrState},
		{of(1 << 12), api.ErrRange},
		{of(1 << 63), api.ErrRange},
		{of(math.MaxUint64), api.ErrRange},
		{of(1, 1|1<<12), api.ErrRange},
		{of(1, 6|1<<12), api.ErrRange},
		{of(1, 1|1<<63), api.ErrRange},
		{of(0), api.ErrFew},
		{of(1, 0), api.ErrFew},
		{of(3, 0), api.ErrFew},
		{of(7, 7), api.ErrForm},
		{of(7, 12), api.ErrForm},
		{of(7, 1), api.ErrForm},
		{of(1, 2), api.ErrForm},
		{of(1, 7), api.ErrForm},
		{of(1, 3, 3), api.ErrForm},
		{of(1, 3, 12), api.ErrForm},
		{of(1, 3, 1, 4), api.ErrForm},
		// one by one: the first one of which something is wrong tells
		{[]api.Epoch{{No: 1}, {No: 9, Members: 1}}, api.ErrFew},
		{[]api.Epoch{{No: 1, Members: 1 << 12}, {No: 9, Members: 1}}, api.ErrRange},
		{[]api.Epoch{{No: 1, Members: 1}, {No: 2, Members: 1}, {No: 2, Members: 1}}, api.ErrForm},
		{of(1, 1, 0), api.ErrForm},
		{of(1, 0, 1<<12), api.ErrFew},
		{of(1, 1<<12, 0), api.ErrRange},
	}
	last := many(64)
	last[63].Members = 1 << 5
	return append(all, bad{last, api.ErrForm})
}

// P5: what is good.
func TestCheckOfGoodEpochs(t *testing.T) {
	for _, l := range some() {
		if e := Check(l); e != api.OK {
			t.Errorf("Check(%v) = %d", l, e)
		}
	}
}

// P5, P6, P1: what is not; to the other calls too, whatever else is wrong, and nothing beside the error.
func TestWrongEpochs(t *testing.T) {
	for _, c := range bads() {
		if e := Check(c.l); e != c.want {
			t.Errorf("Check(%v) = %d, want %d", c.l, e, c.want)
		}
		if set, e := Common(c.l); set != 0 || e != c.want {
			t.Errorf("Common(%v) = %d, %d, want %d", c.l, set, e, c.want)
		}
		for _, n := range []int{math.MinInt, -1, 0, 1, 2, 4, 11, 12, 64, math.MaxInt} {
			if l, e := Turn(c.l, n); len(l) != 0 || e != c.want {
				t.Errorf("Turn(%v, %d) = %v, %d, want %d", c.l, n, l, e, c.want)
			}
			if x, e := At(c.l, n); x != (api.Epoch{}) || e != c.want {
				t.Errorf("At(%v, %d) = %v, %d, want %d", c.l, n, x, e, c.want)
			}
		}
	}
}

// P5: each epoch beside each other one, of five nodes: good, if one has just one member that the other one hasn't.
func TestCheckOfAllPairs(t *testing.T) {
	for a := range uint64(32) {
		for b := range uint64(32) {
			want := api.ErrForm
			switch {
			case a == 0 || b == 0:
				want = api.ErrFew
			case slices.Contains([]uint64{1, 2, 4, 8, 16}, max(a, b)-min(a, b)) && (a&b == a || a&b == b):
				want = api.OK
			}
			if e := Check(of(a, b)); e != want {
				t.Errorf("Check(%v) = %d, want %d", of(a, b), e, want)
			}
		}
	}
}

// P6: a member more, or one less.
func TestTurn(t *testing.T) {
	for _, c := range []struct {
		l    []api.Epoch
		node int
		want []api.Epoch
	}{
		{of(7), 0, of(7, 6)},
		{of(7), 2, of(7, 3)},
		{of(7), 3, of(7, 15)},
		{of(7), 11, of(7, 2055)},
		{of(1), 1, of(1, 3)},
		{of(4095), 11, of(4095, 2047)},
		{of(7, 15, 14), 3, of(7, 15, 14, 6)},
		{of(7, 15, 14), 0, of(7, 15, 14, 15)},
		{of(1, 3), 0, of(1, 3, 2)},
		{many(63), 11, many(64)},
	} {
		if l, e := Turn(c.l, c.node); !slices.Equal(l, c.want) || e != api.OK {
			t.Errorf("Turn(%v, %d) = %v, %d, want %v", c.l, c.node, l, e, c.want)
		}
	}
}

// P6, P1: each error, and of several the one that P6 names first.
func TestWrongTurns(t *testing.T) {
	for _, c := range []struct {
		l    []api.Epoch
		node int
		want api.Errno
	}{
		{nil, 0, api.ErrNone},
		{nil, -1, api.ErrNone},
		{[]api.Epoch{}, 12, api.ErrNone},
		{of(1), -1, api.ErrRange},
		{of(1), 12, api.ErrRange},
		{of(7, 15), 64, api.ErrRange},
		{of(7, 15), math.MinInt, api.ErrRange},
		{of(7, 15), math.MaxInt, api.ErrRange},
		{many(64), -1, api.ErrRange},
		{many(64), 12, api.ErrRange},
		{many(64), 0, api.ErrMany},
		{many(64), 11, api.ErrMany},
		{append(many(63), api.Epoch{No: 64, Members: 1<<4 | 1}), 0, api.ErrMany},
		{of(1), 0, api.ErrFew},
		{of(1 << 11), 11, api.ErrFew},
		{of(7, 3, 2), 1, api.ErrFew},
	} {
		if l, e := Turn(c.l, c.node); len(l) != 0 || e != c.want {
			t.Errorf("Turn(%v, %d) = %v, %d, want %d", c.l, c.node, l, e, c.want)
		}
	}
	l := many(65)[1:]
	for place := range l {
		l[place].No = place + 1
	}
	if next, e := Turn(l, 4); len(next) != 0 || Check(l) != api.OK || e != api.ErrMany {
		t.Errorf("without the only member of %v: %v, %d", l, next, e)
	}
}

// P6: the epoch of each number; ErrNone of others.
func TestAt(t *testing.T) {
	for _, l := range some() {
		for no := -2; no <= len(l)+2; no++ {
			x, e := At(l, no)
			if no < 1 || no > len(l) {
				if x != (api.Epoch{}) || e != api.ErrNone {
					t.Errorf("At(%v, %d) = %v, %d", l, no, x, e)
				}
			} else if x != l[no-1] || x.No != no || e != api.OK {
				t.Errorf("At(%v, %d) = %v, %d", l, no, x, e)
			}
		}
		for _, no := range []int{math.MinInt, math.MaxInt, 65} {
			if x, e := At(l, no); x != (api.Epoch{}) || e != api.ErrNone {
				t.Errorf("At(%v, %d) = %v, %d", l, no, x, e)
			}
		}
	}
}

// P6: who is a member in all of them.
func TestCommon(t *testing.T) {
	for _, c := range []struct {
		l    []api.Epoch
		want uint64
	}{
		{nil, 0}, {[]api.Epoch{}, 0}, {of(1), 1}, {of(4095), 4095}, {of(7, 15, 14), 6}, {of(7, 3, 1), 1}, {of(1, 3, 2), 0}, {of(1, 3, 2, 3), 0}, {of(4095, 2047, 4095), 2047}, {many(2), 16}, {many(64), 16},
	} {
		if set, e := Common(c.l); set != c.want || e != api.OK {
			t.Errorf("Common(%v) = %d, %d, want %d", c.l, set, e, c.want)
		}
	}
}

// P5, P6: turns of any nodes; each has what was there ahead of it, and what is left is a group still.
func TestManyTurns(t *testing.T) {
	d := draw(1)
	for range 200 {
		l := of(1 << d.below(12))
		all := l[0].Members
		for len(l) < api.MaxList {
			node := d.below(12)
			next, e := Turn(l, node)
			members := l[len(l)-1].Members
			if members == 1<<node {
				if len(next) != 0 || e != api.ErrFew {
					t.Fatalf("Turn(%v, %d) = %v, %d", l, node, next, e)
				}
				continue
			}
			if e != api.OK || Check(next) != api.OK || !slices.Equal(next[:len(l)], l) || len(next) != len(l)+1 {
				t.Fatalf("Turn(%v, %d) = %v, %d", l, node, next, e)
			}
			was, is := members>>node&1 == 1, next[len(l)].Members>>node&1 == 1
			if was == is || members|1<<node != next[len(l)].Members|1<<node {
				t.Fatalf("Turn(%v, %d) = %v", l, node, next)
			}
			l = next
			all &= l[len(l)-1].Members
			if set, e := Common(l); set != all || e != api.OK {
				t.Fatalf("Common(%v) = %d, %d, want %d", l, set, e, all)
			}
		}
		if l, e := Turn(l, d.below(12)); len(l) != 0 || e != api.ErrMany {
			t.Fatalf("%v, %d", l, e)
		}
	}
}

// P7: more than half of the members, of whatever epoch and set.
func TestMajor(t *testing.T) {
	for _, c := range []struct {
		members, set uint64
		want         bool
	}{
		{0, 0, false}, {0, math.MaxUint64, false},
		{1, 0, false}, {1, 1, true}, {1, 2, false}, {1, 3, true},
		{3, 1, false}, {3, 2, false}, {3, 3, true}, {3, 4, false}, {3, 5, false},
		{7, 1, false}, {7, 3, true}, {7, 6, true}, {7, 9, false}, {7, 13, true}, {7, 248, false},
		{15, 3, false}, {15, 7, true}, {15, 51, false},
		{1 << 63, 1 << 63, true}, {1 << 63, 1<<63 - 1, false},
		{math.MaxUint64, math.MaxUint32, false}, {math.MaxUint64, math.MaxUint32 << 1, false}, {math.MaxUint64, 1<<33 - 1, true}, {math.MaxUint64, math.MaxUint64, true},
		{4095, 63, false}, {4095, 127, true}, {4095, 1<<63 | 63, false},
	} {
		for _, no := range []int{0, 1, -7, math.MaxInt} {
			if is := Major(api.Epoch{No: no, Members: c.members}, c.set); is != c.want {
				t.Errorf("Major of %x, %x: %t", c.members, c.set, is)
			}
		}
	}
}

// P7: by counting one by one, of all groups of six nodes and all sets of seven.
func TestMajorOfAll(t *testing.T) {
	for members := range uint64(64) {
		for set := range uint64(128) {
			in, out := 0, 0
			for node := range 6 {
				if members>>node&1 == 1 && set>>node&1 == 1 {
					in++
				} else if members>>node&1 == 1 {
					out++
				}
			}
			if is := Major(api.Epoch{Members: members}, set); is != (in > out) {
				t.Errorf("Major of %b, %b: %t", members, set, is)
			}
		}
	}
}

// P8: of all groups of five nodes and all majorities of them, and of the epoch that each turn makes.
func TestMajoritiesShareANode(t *testing.T) {
	pairs := 0
	for members := range uint64(32) {
		for node := range 5 {
			l, e := Turn(of(members), node)
			if e != api.OK {
				continue
			}
			for a := range uint64(32) {
				for b := range uint64(32) {
					if Major(l[0], a) && Major(l[1], b) {
						pairs++
						if a&b == 0 {
							t.Fatalf("%v: %b and %b", l, a, b)
						}
					}
				}
			}
		}
	}
	if pairs < 10000 {
		t.Errorf("only %d were asked of", pairs)
	}
}

// P8: of any group, the least majorities, as far from one another as they can be.
func TestLeastMajoritiesShareANode(t *testing.T) {
	d := draw(2)
	for range 3000 {
		l, e := Turn(of(1+uint64(d.below(4095))), d.below(12))
		if e != api.OK {
			continue
		}
		a := least(l[0], func(bit int) int { return bit })
		b := least(l[1], func(bit int) int { return 11 - bit })
		if a&b == 0 || !Major(l[0], a) || !Major(l[1], b) {
			t.Fatalf("%v: %b and %b", l, a, b)
		}
	}
}

// least majority of an epoch, of nodes in that order.
func least(e api.Epoch, order func(bit int) int) uint64 {
	set := uint64(0)
	for bit := 0; bits.OnesCount64(set) <= bits.OnesCount64(e.Members)/2; bit++ {
		set |= e.Members & (1 << order(bit))
	}
	return set
}

// P2: epochs, and the room behind them, are only read; what Turn answers is new memory.
func TestEpochsAreOnlyRead(t *testing.T) {
	room := append(of(7, 15, 14), api.Epoch{No: 77, Members: 8}, api.Epoch{No: -8})
	was := slices.Clone(room)
	l := room[:3]
	next, e := Turn(l, 5)
	At(l, 2)
	Common(l)
	Check(l)
	if e != api.OK || !slices.Equal(room, was) {
		t.Fatalf("%d, it is %v", e, room)
	}
	clear(next)
	if !slices.Equal(room, was) {
		t.Fatalf("it changed with the answer: %v", room)
	}
	next, _ = Turn(l, 5)
	clear(room)
	if !slices.Equal(next, of(7, 15, 14, 46)) {
		t.Errorf("the answer changed: %v", next)
	}
}

// P3: calls between change no answer.
func TestAnswersStay(t *testing.T) {
	first, _ := Turn(of(7), 3)
	clear(first)
	Turn(of(1, 3), 9)
	Turn(nil, 3)
	Common(of(4))
	if again, e := Turn(of(7), 3); !slices.Equal(again, of(7, 15)) || e != api.OK {
		t.Errorf("%v, %d", again, e)
	}
	if set, e := Common(of(7, 15)); set != 7 || e != api.OK {
		t.Errorf("%d, %d", set, e)
	}
}

// P1: no call panics, whatever it is handed; with an error the rest is empty, and without one what comes out is good.
func TestNoPanic(t *testing.T) {
	d := draw(3)
	odd := func() int {
		if d.below(6) > 0 {
			return d.below(12)
		}
		return []int{math.MinInt, -1, 12, 63, 64, 65, math.MaxInt}[d.below(7)]
	}
	good := 0
	for range 20000 {
		l := slices.Clone(some()[d.below(len(some()))])
		for range d.below(3) {
			if len(l) > 0 {
				l[d.below(len(l))] = api.Epoch{No: odd(), Members: uint64(1)<<d.below(64) | uint64(d.below(4096))}
			}
		}
		e := Check(l)
		next, f := Turn(l, odd())
		x, g := At(l, odd())
		set, h := Common(l)
		Major(x, set)
		if h != e || e != api.OK && (f != e || g != e) || f != api.OK && len(next) > 0 || g != api.OK && x != (api.Epoch{}) || h != api.OK && set != 0 {
			t.Fatalf("%v: %d; %v, %d; %v, %d; %d, %d", l, e, next, f, x, g, set, h)
		}
		if f == api.OK {
			good++
			if e := Check(next); e != api.OK {
				t.Fatalf("%v: %d", next, e)
			}
		}
	}
	if good < 1000 {
		t.Errorf("only %d were good", good)
	}
}
