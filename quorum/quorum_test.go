package quorum

import (
	"math"
	"math/bits"
	"slices"
	"testing"

	"supercargo/api"
)

// draw gives the same numbers each time.
type draw uint64

func (d *draw) below(n int) int {
	*d = *d*6364136223846793005 + 1442695040888963407
	return int(uint64(*d) >> 33 % uint64(n))
}

// weights of so many nodes, each at most so heavy.
func (d *draw) weights(nodes, most int) []int {
	out := make([]int, nodes)
	for i := range out {
		out[i] = d.below(most + 1)
	}
	return out
}

// voters: weights, and how much is needed.
type voters struct {
	weights []int
	need    int
}

// some voters that Check finds good: all needs of each weights.
func some() []voters {
	d := draw(1)
	lists := [][]int{{1}, {100}, {1, 1, 1}, {3, 1, 1, 2}, {0, 0, 5}, {100, 100}, {2, 2, 2, 2}, {0, 1, 0}, {1, 100, 1}, {1, 2, 4, 8, 16}}
	for nodes := 1; nodes <= 7; nodes++ {
		lists = append(lists, d.weights(nodes, 3), d.weights(nodes, 9), d.weights(nodes, 100))
	}
	var all []voters
	for _, weights := range lists {
		sum := heavy(weights, math.MaxUint64)
		for need := sum/2 + 1; need <= sum; need += 1 + sum/40 {
			all = append(all, voters{weights, need})
		}
		if sum > 0 {
			all = append(all, voters{weights, sum})
		}
	}
	return all
}

// heavy: how much a set has, node by node.
func heavy(weights []int, set uint64) int {
	sum := 0
	for i := range weights {
		sum += weights[i] * int(set>>i&1)
	}
	return sum
}

// filled: so many weights, all the same.
func filled(nodes, weight int) []int { return slices.Repeat([]int{weight}, nodes) }

// wrong: voters, and what Check answers of them.
type wrong struct {
	weights []int
	need    int
	want    api.Errno
}

// wrongs: each limit from both sides, and of several faults the one that H1 names first.
func wrongs() []wrong {
	return []wrong{
		{nil, 1, api.ErrFew},
		{[]int{}, 0, api.ErrFew},
		{nil, math.MinInt, api.ErrFew},
		{filled(13, 1), 7, api.ErrMany},
		{filled(13, -1), 7, api.ErrMany},
		{filled(13, 101), 0, api.ErrMany},
		{filled(100000, 1), 60000, api.ErrMany},
		{[]int{-1, 2}, 1, api.ErrRange},
		{[]int{101}, 101, api.ErrRange},
		{[]int{1, 1, 101}, 1, api.ErrRange},
		{[]int{5, 5, -1}, 1, api.ErrRange},
		{[]int{math.MaxInt, math.MaxInt}, math.MaxInt, api.ErrRange},
		{[]int{math.MinInt}, math.MinInt, api.ErrRange},
		{[]int{0}, 0, api.ErrRange},
		{[]int{0}, 1, api.ErrRange},
		{filled(12, 0), 0, api.ErrRange},
		{filled(12, 0), 1, api.ErrRange},
		{[]int{1, 1, 1}, 0, api.ErrRange},
		{[]int{1, 1, 1}, -1, api.ErrRange},
		{[]int{1, 1, 1}, 4, api.ErrRange},
		{filled(12, 100), 1201, api.ErrRange},
		{[]int{1, 1, 1}, math.MaxInt, api.ErrRange},
		{[]int{1, 1, 1}, math.MinInt, api.ErrRange},
		{[]int{1, 1, 1}, math.MaxInt/2 + 1, api.ErrRange},
		{[]int{1, 1, 1}, 1, api.ErrState},
		{[]int{2, 2, 2, 2}, 4, api.ErrState},
		{[]int{1, 1}, 1, api.ErrState},
		{[]int{0, 0, 5}, 2, api.ErrState},
		{filled(12, 100), 600, api.ErrState},
		{filled(12, 100), 1, api.ErrState},
	}
}

// H1: what is needed is from just above a half of all to all.
func TestCheckOfGoodVoters(t *testing.T) {
	for _, v := range some() {
		if e := Check(v.weights, v.need); e != api.OK {
			t.Errorf("Check(%v, %d) = %d", v.weights, v.need, e)
		}
	}
	for _, v := range []voters{{[]int{100}, 51}, {filled(12, 100), 601}, {filled(12, 100), 1200}, {filled(12, 1), 7}, {[]int{2, 2, 2, 2}, 5}, {[]int{1, 1, 1}, 2}, {append(filled(11, 0), 1), 1}} {
		if e := Check(v.weights, v.need); e != api.OK {
			t.Errorf("Check(%v, %d) = %d", v.weights, v.need, e)
		}
	}
}

// H1, P1: the errors in their order.
func TestCheckOfWrongVoters(t *testing.T) {
	for _, c := range wrongs() {
		if e := Check(c.weights, c.need); e != c.want {
			t.Errorf("Check(%v, %d) = %d, want %d", c.weights, c.need, e, c.want)
		}
	}
}

// H1: of some weights each need: ErrRange, ErrState up to the half, OK, ErrRange.
func TestCheckOfEachNeed(t *testing.T) {
	for _, weights := range [][]int{{1}, {2}, {0, 7}, {4, 4, 4}, {9, 1, 3, 2}, filled(12, 100)} {
		all := heavy(weights, math.MaxUint64)
		for need := -2; need <= all+2; need++ {
			want := api.OK
			switch {
			case need <= 0 || need > all:
				want = api.ErrRange
			case need <= all-need:
				want = api.ErrState
			}
			if e := Check(weights, need); e != want {
				t.Errorf("Check(%v, %d) = %d, want %d", weights, need, e, want)
			}
		}
	}
}

// H2, H3, P1: Enough, Least and Spare begin with Check, whatever the set is, and answer nothing else.
func TestOtherCallsBeginWithCheck(t *testing.T) {
	for _, c := range wrongs() {
		for _, set := range []uint64{0, 1, 1 << 11, 1 << 12, math.MaxUint64} {
			if is, e := Enough(c.weights, c.need, set); is || e != c.want {
				t.Errorf("Enough(%v, %d, %d) = %t, %d, want %d", c.weights, c.need, set, is, e, c.want)
			}
		}
		if n, e := Least(c.weights, c.need); n != 0 || e != c.want {
			t.Errorf("Least(%v, %d) = %d, %d, want %d", c.weights, c.need, n, e, c.want)
		}
		if n, e := Spare(c.weights, c.need); n != 0 || e != c.want {
			t.Errorf("Spare(%v, %d) = %d, %d, want %d", c.weights, c.need, n, e, c.want)
		}
	}
}

// H2: each set of nodes, of weights of each number, those of no weight at all too.
func TestSumOfEachSet(t *testing.T) {
	d := draw(2)
	for nodes := 1; nodes <= api.MaxNodes; nodes++ {
		for _, weights := range [][]int{d.weights(nodes, 100), filled(nodes, 100), filled(nodes, 0)} {
			for set := range uint64(1) << nodes {
				if sum, e := Sum(weights, set); sum != heavy(weights, set) || e != api.OK {
					t.Fatalf("Sum(%v, %d) = %d, %d, want %d", weights, set, sum, e, heavy(weights, set))
				}
			}
		}
	}
}

// H2, P1: the errors of the weights go first, then ErrRange of a bit of no node; and nothing else.
func TestSumOfWrongInputs(t *testing.T) {
	for _, c := range []struct {
		weights []int
		set     uint64
		want    api.Errno
	}{
		{nil, 0, api.ErrFew},
		{[]int{}, math.MaxUint64, api.ErrFew},
		{filled(13, 1), 0, api.ErrMany},
		{filled(13, 101), 1 << 13, api.ErrMany},
		{filled(100, 1), 1 << 63, api.ErrMany},
		{[]int{-1}, 0, api.ErrRange},
		{[]int{0, 101}, 1, api.ErrRange},
		{[]int{1, math.MaxInt}, 3, api.ErrRange},
		{[]int{1}, 2, api.ErrRange},
		{[]int{1}, 3, api.ErrRange},
		{[]int{1, 1, 1}, 8, api.ErrRange},
		{[]int{1, 1, 1}, 15, api.ErrRange},
		{[]int{1, 1, 1}, 1 << 40, api.ErrRange},
		{filled(12, 1), 1 << 12, api.ErrRange},
		{filled(12, 1), 1 << 63, api.ErrRange},
		{filled(12, 1), math.MaxUint64, api.ErrRange},
	} {
		if sum, e := Sum(c.weights, c.set); sum != 0 || e != c.want {
			t.Errorf("Sum(%v, %d) = %d, %d, want %d", c.weights, c.set, sum, e, c.want)
		}
	}
}

// H2: each set of some voters; a bit of no node is ErrRange, and not enough.
func TestEnoughOfEachSet(t *testing.T) {
	for _, v := range some() {
		end := uint64(1) << len(v.weights)
		for set := range end {
			if is, e := Enough(v.weights, v.need, set); is != (heavy(v.weights, set) >= v.need) || e != api.OK {
				t.Fatalf("Enough(%v, %d, %d) = %t, %d", v.weights, v.need, set, is, e)
			}
		}
		for _, set := range []uint64{end, 2*end - 1, 1 << 63, math.MaxUint64} {
			if is, e := Enough(v.weights, v.need, set); is || e != api.ErrRange {
				t.Fatalf("Enough(%v, %d, %d) = %t, %d", v.weights, v.need, set, is, e)
			}
		}
	}
}

// least by going through all sets.
func least(v voters) int {
	fewest := len(v.weights)
	for set := range uint64(1) << len(v.weights) {
		if heavy(v.weights, set) >= v.need {
			fewest = min(fewest, bits.OnesCount64(set))
		}
	}
	return fewest
}

// spare by going through all sets: one fewer than the fewest that may not be away.
func spare(v voters) int {
	all := uint64(1)<<len(v.weights) - 1
	fewest := len(v.weights)
	for away := range all + 1 {
		if heavy(v.weights, all&^away) < v.need {
			fewest = min(fewest, bits.OnesCount64(away))
		}
	}
	return fewest - 1
}

// H3: as all sets tell.
func TestLeastAndSpareOfAllSets(t *testing.T) {
	d := draw(3)
	all := some()
	for range 6 {
		weights := d.weights(api.MaxNodes, 100)
		sum := heavy(weights, math.MaxUint64)
		all = append(all, voters{weights, sum/2 + 1}, voters{weights, sum/2 + 1 + d.below(sum/2)}, voters{weights, sum})
	}
	for _, v := range all {
		if n, e := Least(v.weights, v.need); n != least(v) || e != api.OK {
			t.Errorf("Least(%v, %d) = %d, %d, want %d", v.weights, v.need, n, e, least(v))
		}
		if n, e := Spare(v.weights, v.need); n != spare(v) || e != api.OK {
			t.Errorf("Spare(%v, %d) = %d, %d, want %d", v.weights, v.need, n, e, spare(v))
		}
	}
}

// H3: some that were reckoned by hand.
func TestLeastAndSpareOfSome(t *testing.T) {
	for _, c := range []struct {
		voters
		least, spare int
	}{
		{voters{[]int{1}, 1}, 1, 0},
		{voters{[]int{1, 1, 1}, 2}, 2, 1},
		{voters{[]int{1, 1, 1}, 3}, 3, 0},
		{voters{[]int{1, 1, 1, 1, 1}, 3}, 3, 2},
		{voters{[]int{0, 0, 5}, 3}, 1, 0},
		{voters{[]int{3, 1, 1, 2}, 4}, 2, 1},
		{voters{[]int{3, 1, 1, 2}, 7}, 4, 0},
		{voters{[]int{0, 1, 0, 1, 1}, 3}, 3, 0},
		{voters{filled(12, 100), 601}, 7, 5},
		{voters{filled(12, 100), 1200}, 12, 0},
		{voters{[]int{1, 2, 3, 4, 5, 6, 7, 8, 9, 10, 11, 12}, 40}, 4, 3},
	} {
		n, e := Least(c.weights, c.need)
		m, f := Spare(c.weights, c.need)
		if n != c.least || m != c.spare || e != api.OK || f != api.OK {
			t.Errorf("%v, %d: %d, %d and %d, %d, want %d and %d", c.weights, c.need, n, e, m, f, c.least, c.spare)
		}
	}
}

// H4: two sets that are enough share a node, even one that has a weight.
func TestEnoughSetsShareANode(t *testing.T) {
	for _, v := range some() {
		var enough []uint64
		for set := range uint64(1) << len(v.weights) {
			if is, _ := Enough(v.weights, v.need, set); is {
				enough = append(enough, set)
			}
		}
		if len(enough) == 0 {
			t.Errorf("%v, %d: no set is enough", v.weights, v.need)
		}
		for _, a := range enough {
			for _, b := range enough {
				if heavy(v.weights, a&b) == 0 {
					t.Fatalf("%v, %d: %d and %d are enough", v.weights, v.need, a, b)
				}
			}
		}
	}
}

// ask all calls of some weights.
func ask(weights []int, need int, set uint64) []int {
	sum, e := Sum(weights, set)
	is, f := Enough(weights, need, set)
	n, g := Least(weights, need)
	m, h := Spare(weights, need)
	yes := 0
	if is {
		yes = 1
	}
	return []int{int(Check(weights, need)), sum, int(e), yes, int(f), n, int(g), m, int(h)}
}

// P2: weights, and the spare room behind them, are only read: they keep their order too.
func TestWeightsAreOnlyRead(t *testing.T) {
	room := []int{1, 9, 3, 7, 5, 77, 2, -8}
	was := slices.Clone(room)
	if got, want := ask(room[:5], 13, 10), []int{0, 16, 0, 1, 0, 2, 0, 1, 0}; !slices.Equal(got, want) {
		t.Errorf("it is %v, want %v", got, want)
	}
	if !slices.Equal(room, was) {
		t.Errorf("it was %v and is %v", was, room)
	}
}

// P2, P3: answers hang on what is handed in now, not on what stood there, nor on calls between.
func TestAnswersStay(t *testing.T) {
	weights := []int{4, 1, 2, 3}
	first := ask(weights, 6, 5)
	copy(weights, []int{100, 0, 0, 0})
	other := ask(weights, 51, 1)
	if want := []int{0, 100, 0, 1, 0, 1, 0, 0, 0}; !slices.Equal(other, want) {
		t.Errorf("it is %v, want %v", other, want)
	}
	copy(weights, []int{4, 1, 2, 3})
	if again := ask(weights, 6, 5); !slices.Equal(first, again) {
		t.Errorf("first %v, then %v", first, again)
	}
}

// P1: no call panics or goes on without end, whatever it is handed; with an error the rest is 0.
func TestNoPanic(t *testing.T) {
	d := draw(4)
	odd := []int{math.MinInt, -1, 0, 1, 2, 50, 100, 101, math.MaxInt}
	for range 5000 {
		weights := d.weights(d.below(15), 100)
		if len(weights) > 0 && d.below(4) == 0 {
			weights[d.below(len(weights))] = odd[d.below(len(odd))]
		}
		need := d.below(1300)
		if d.below(4) == 0 {
			need = odd[d.below(len(odd))]
		}
		set := uint64(1)<<d.below(64) - uint64(d.below(2))
		got := ask(weights, need, set)
		if got[2] != 0 && got[1] != 0 || got[4] != 0 && got[3] != 0 || got[6] != 0 && got[5] != 0 || got[8] != 0 && got[7] != 0 {
			t.Fatalf("%v, %d, %d: %v", weights, need, set, got)
		}
		if got[6] != got[0] || got[8] != got[0] || got[0] != 0 && got[4] != got[0] {
			t.Fatalf("%v, %d, %d: %v", weights, need, set, got)
		}
	}
}
