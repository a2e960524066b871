package stamp

import (
	"math"
	"slices"
	"testing"

	"supercargo/api"
)

// draw gives the same numbers each time.
type draw uint64

func (d *draw) below(n int) int {
	*d = *d*6364136223846793005 + 1442695040888963407
	return int(uint64(*d) >> 33 % uint64(n))
}

// stamps: so many, of few times and few nodes, so that many are alike.
func (d *draw) stamps(many int) []api.Stamp {
	out := make([]api.Stamp, many)
	for i := range out {
		out[i] = api.Stamp{Time: d.below(4), Who: d.below(4)}
	}
	return out
}

// numbers that stand around each limit.
func numbers() []int {
	return []int{math.MinInt, -api.MaxTime, -1, 0, 1, 2, 30, 31, 32, 33, api.MaxTime - 1, api.MaxTime, api.MaxTime + 1, math.MaxInt}
}

// around: stamps of all these numbers, good ones and others.
func around() []api.Stamp {
	var all []api.Stamp
	for _, time := range numbers() {
		for _, who := range numbers() {
			all = append(all, api.Stamp{Time: time, Who: who})
		}
	}
	return all
}

// order of all good stamps: the place of each one among them.
func order(s api.Stamp) int { return s.Time*(api.MaxWho+1) + s.Who }

// I1: both limits of Time and of Who, from both sides.
func TestCheck(t *testing.T) {
	for _, s := range around() {
		want := api.OK
		if s.Time < 0 || s.Time > 1000000 || s.Who < 0 || s.Who > 31 {
			want = api.ErrRange
		}
		if e := Check(s); e != want {
			t.Errorf("Check(%v) = %d, want %d", s, e, want)
		}
	}
}

// I1: of two good stamps as their places tell.
func TestLessOfGoodStamps(t *testing.T) {
	for _, a := range around() {
		for _, b := range around() {
			if Check(a) != api.OK || Check(b) != api.OK {
				continue
			}
			if Less(a, b) != (order(a) < order(b)) {
				t.Errorf("Less(%v, %v) = %t", a, b, Less(a, b))
			}
		}
	}
}

// I1: of whatever stamps, those that Check would not have too: an order in which two that differ are never alike.
func TestLessIsAnOrder(t *testing.T) {
	all := around()
	for i, a := range all {
		for k, b := range all {
			if Less(a, b) != (i < k) { // they are made from the least one on
				t.Fatalf("Less(%v, %v) = %t", a, b, Less(a, b))
			}
		}
	}
}

// I1: Time goes ahead of Who.
func TestLessOfSome(t *testing.T) {
	for _, c := range []struct {
		a, b api.Stamp
		want bool
	}{
		{api.Stamp{}, api.Stamp{}, false},
		{api.Stamp{Time: 1, Who: 31}, api.Stamp{Time: 2, Who: 0}, true},
		{api.Stamp{Time: 2, Who: 0}, api.Stamp{Time: 1, Who: 31}, false},
		{api.Stamp{Time: 1, Who: 2}, api.Stamp{Time: 1, Who: 3}, true},
		{api.Stamp{Time: 1, Who: 3}, api.Stamp{Time: 1, Who: 2}, false},
		{api.Stamp{Time: 1, Who: 3}, api.Stamp{Time: 1, Who: 3}, false},
		{api.Stamp{Time: math.MinInt}, api.Stamp{Time: math.MaxInt}, true},
		{api.Stamp{Time: math.MaxInt}, api.Stamp{Time: math.MinInt}, false},
		{api.Stamp{Who: math.MinInt}, api.Stamp{Who: math.MaxInt}, true},
		{api.Stamp{Who: math.MaxInt}, api.Stamp{Who: math.MinInt}, false},
	} {
		if is := Less(c.a, c.b); is != c.want {
			t.Errorf("Less(%v, %v) = %t", c.a, c.b, is)
		}
	}
}

// I2: the greatest one is one of them, and none is above it; of none it is the zero stamp.
func TestMax(t *testing.T) {
	for _, l := range [][]api.Stamp{nil, {}, make([]api.Stamp, api.MaxList)} {
		if s, e := Max(l); s != (api.Stamp{}) || e != api.OK {
			t.Errorf("Max(%v) = %v, %d", l, s, e)
		}
	}
	d := draw(1)
	for many := 1; many <= api.MaxList; many++ {
		for range 20 {
			l := d.stamps(many)
			s, e := Max(l)
			if e != api.OK || !slices.Contains(l, s) {
				t.Fatalf("Max(%v) = %v, %d", l, s, e)
			}
			if slices.ContainsFunc(l, func(other api.Stamp) bool { return order(other) > order(s) }) {
				t.Fatalf("Max(%v) = %v", l, s)
			}
		}
	}
}

// I2: wherever the greatest one stands.
func TestMaxAtEachPlace(t *testing.T) {
	for _, top := range []api.Stamp{{Time: 1}, {Who: 1}, {Time: api.MaxTime, Who: api.MaxWho}} {
		for i := range api.MaxList {
			l := make([]api.Stamp, api.MaxList)
			l[i] = top
			if s, e := Max(l); s != top || e != api.OK {
				t.Errorf("%v at %d: %v, %d", top, i, s, e)
			}
		}
	}
}

// wrong: a list, and what Max answers of it.
type wrong struct {
	l    []api.Stamp
	want api.Errno
}

// wrongs: too many, the first thing that I2 names, and at each place one that is no good.
func wrongs() []wrong {
	bad := api.Stamp{Time: -1}
	all := []wrong{
		{make([]api.Stamp, api.MaxList+1), api.ErrMany},
		{make([]api.Stamp, 100000), api.ErrMany},
		{slices.Repeat([]api.Stamp{bad}, api.MaxList+1), api.ErrMany},
		{slices.Repeat([]api.Stamp{bad}, api.MaxList), api.ErrRange},
	}
	for _, s := range around() {
		if Check(s) != api.OK {
			all = append(all, wrong{[]api.Stamp{s}, api.ErrRange}, wrong{[]api.Stamp{{Time: 5}, s, {Time: 7}}, api.ErrRange})
		}
	}
	for i := range api.MaxList {
		l := slices.Repeat([]api.Stamp{{Time: 3, Who: 3}}, api.MaxList)
		l[i] = bad
		all = append(all, wrong{l, api.ErrRange})
	}
	return all
}

// I2, P1: the errors of Max, of Next too whatever who is; and nothing beside them.
func TestWrongLists(t *testing.T) {
	for _, c := range wrongs() {
		if s, e := Max(c.l); s != (api.Stamp{}) || e != c.want {
			t.Errorf("Max of %d, the first %v: %v, %d, want %d", len(c.l), c.l[0], s, e, c.want)
		}
		for _, who := range []int{0, 31, 32, -1} {
			if s, e := Next(c.l, who); s != (api.Stamp{}) || e != c.want {
				t.Errorf("Next of %d, the first %v, and %d: %v, %d, want %d", len(c.l), c.l[0], who, s, e, c.want)
			}
		}
	}
}

// I2: Next of some lists, who being each number, good and wrong.
func TestNext(t *testing.T) {
	for _, c := range []struct {
		l    []api.Stamp
		time int
	}{
		{nil, 1},
		{[]api.Stamp{{}}, 1},
		{[]api.Stamp{{Time: 0, Who: 31}}, 1},
		{[]api.Stamp{{Time: 4, Who: 31}, {Time: 5}, {Time: 2, Who: 3}}, 6},
		{[]api.Stamp{{Time: api.MaxTime - 1, Who: 31}}, api.MaxTime},
		{make([]api.Stamp, api.MaxList), 1},
	} {
		for _, who := range numbers() {
			want, wrong := api.Stamp{Time: c.time, Who: who}, api.OK
			if who < 0 || who > 31 {
				want, wrong = api.Stamp{}, api.ErrRange
			}
			if s, e := Next(c.l, who); s != want || e != wrong {
				t.Errorf("Next(%v, %d) = %v, %d, want %v, %d", c.l, who, s, e, want, wrong)
			}
		}
	}
}

// I2: above MaxTime there is none, whoever asks.
func TestNextAtTheEndOfTime(t *testing.T) {
	for _, l := range [][]api.Stamp{{{Time: api.MaxTime}}, {{Time: api.MaxTime, Who: 31}}, {{Time: 1}, {Time: api.MaxTime, Who: 2}, {Time: 3}}} {
		for _, who := range numbers() {
			if s, e := Next(l, who); s != (api.Stamp{}) || e != api.ErrRange {
				t.Errorf("Next(%v, %d) = %v, %d", l, who, s, e)
			}
		}
	}
}

// I3: Next is above all of which it is; of different nodes, whatever lists they have, it is never the same.
func TestNextIsAboveAll(t *testing.T) {
	d := draw(2)
	for range 500 {
		l, other := d.stamps(d.below(api.MaxList+1)), d.stamps(d.below(api.MaxList+1))
		for who := range api.MaxWho + 1 {
			s, e := Next(l, who)
			if e != api.OK || Check(s) != api.OK || slices.ContainsFunc(l, func(old api.Stamp) bool { return !Less(old, s) }) {
				t.Fatalf("Next(%v, %d) = %v, %d", l, who, s, e)
			}
			for third := range who {
				if same, _ := Next(other, third); same == s {
					t.Fatalf("%d and %d: %v", who, third, s)
				}
			}
		}
	}
}

// P2: stamps, and the spare room behind them, are only read.
func TestStampsAreOnlyRead(t *testing.T) {
	room := []api.Stamp{{Time: 3}, {Time: 9, Who: 2}, {Time: 1}, {Time: 77}, {Time: -5}}
	was := slices.Clone(room)
	s, e := Max(room[:3])
	n, f := Next(room[:3], 4)
	if s != (api.Stamp{Time: 9, Who: 2}) || n != (api.Stamp{Time: 10, Who: 4}) || e != api.OK || f != api.OK {
		t.Errorf("%v, %d and %v, %d", s, e, n, f)
	}
	if !slices.Equal(room, was) {
		t.Errorf("it was %v and is %v", was, room)
	}
}

// P2, P3: answers hang on what is handed in now, not on what stood there, nor on calls between.
func TestAnswersStay(t *testing.T) {
	l := []api.Stamp{{Time: 3}, {Time: 2}}
	for range 2 {
		l[0].Time = 3
		first, _ := Next(l, 1)
		l[0].Time = 50
		second, _ := Next(l, 1)
		if first != (api.Stamp{Time: 4, Who: 1}) || second != (api.Stamp{Time: 51, Who: 1}) {
			t.Errorf("%v and %v", first, second)
		}
	}
}
