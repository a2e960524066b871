package layout

import (
	"math"
	"slices"
	"testing"

	"supercargo/api"
)

// good layouts: all there are.
func good() []api.Layout {
	var all []api.Layout
	for nodes := 1; nodes <= api.MaxNodes; nodes++ {
		for data := 1; data <= api.MaxData; data++ {
			for more := 1; more <= api.MaxMore && data+more <= nodes; more++ {
				for turn := range nodes {
					all = append(all, api.Layout{Nodes: nodes, Data: data, More: more, Turn: turn})
				}
			}
		}
	}
	return all
}

// wrong: a layout, and what is wrong of it.
type wrong struct {
	l    api.Layout
	want api.Errno
}

// wrongs: each limit from both sides, and of several faults the one that G1 names first.
func wrongs() []wrong {
	return []wrong{
		{api.Layout{}, api.ErrRange},
		{api.Layout{Nodes: 0, Data: 1, More: 1}, api.ErrRange},
		{api.Layout{Nodes: -1, Data: 1, More: 1}, api.ErrRange},
		{api.Layout{Nodes: 13, Data: 1, More: 1}, api.ErrRange},
		{api.Layout{Nodes: math.MaxInt, Data: 1, More: 1}, api.ErrRange},
		{api.Layout{Nodes: math.MinInt, Data: 1, More: 1}, api.ErrRange},
		{api.Layout{Nodes: 12, Data: 0, More: 1}, api.ErrRange},
		{api.Layout{Nodes: 12, Data: -1, More: 4}, api.ErrRange},
		{api.Layout{Nodes: 12, Data: 9, More: 1}, api.ErrRange},
		{api.Layout{Nodes: 12, Data: 1, More: 0}, api.ErrRange},
		{api.Layout{Nodes: 12, Data: 4, More: -1}, api.ErrRange},
		{api.Layout{Nodes: 12, Data: 1, More: 7}, api.ErrRange},
		{api.Layout{Nodes: 12, Data: math.MaxInt, More: 1}, api.ErrRange},
		{api.Layout{Nodes: 12, Data: 1, More: math.MaxInt}, api.ErrRange},
		{api.Layout{Nodes: 12, Data: math.MaxInt, More: math.MaxInt}, api.ErrRange},
		{api.Layout{Nodes: 3, Data: 9, More: 2}, api.ErrRange},
		{api.Layout{Nodes: 3, Data: 2, More: 7, Turn: 9}, api.ErrRange},
		{api.Layout{Nodes: 1, Data: 1, More: 1}, api.ErrFew},
		{api.Layout{Nodes: 3, Data: 2, More: 2}, api.ErrFew},
		{api.Layout{Nodes: 3, Data: 2, More: 2, Turn: 3}, api.ErrFew},
		{api.Layout{Nodes: 3, Data: 2, More: 2, Turn: -1}, api.ErrFew},
		{api.Layout{Nodes: 12, Data: 8, More: 5}, api.ErrFew},
		{api.Layout{Nodes: 12, Data: 8, More: 6, Turn: 12}, api.ErrFew},
		{api.Layout{Nodes: 5, Data: 2, More: 2, Turn: -1}, api.ErrRange},
		{api.Layout{Nodes: 5, Data: 2, More: 2, Turn: 5}, api.ErrRange},
		{api.Layout{Nodes: 12, Data: 8, More: 4, Turn: 12}, api.ErrRange},
		{api.Layout{Nodes: 2, Data: 1, More: 1, Turn: math.MaxInt}, api.ErrRange},
		{api.Layout{Nodes: 2, Data: 1, More: 1, Turn: math.MinInt}, api.ErrRange},
	}
}

// numbers that are none of so many.
func outside(end int) []int { return []int{math.MinInt, -1, end, end + 1, math.MaxInt} }

// some good layouts: the least one, the greatest one, and such with nodes to spare.
func some() []api.Layout {
	return []api.Layout{
		{Nodes: 2, Data: 1, More: 1, Turn: 1},
		{Nodes: 5, Data: 2, More: 2, Turn: 1},
		{Nodes: 12, Data: 8, More: 4, Turn: 11},
		{Nodes: 12, Data: 6, More: 6},
		{Nodes: 12, Data: 1, More: 1, Turn: 7},
	}
}

func mustNode(t *testing.T, l api.Layout, stripe, piece int) int {
	t.Helper()
	node, e := Node(l, stripe, piece)
	if e != api.OK {
		t.Fatalf("Node(%+v, %d, %d): %d", l, stripe, piece, e)
	}
	return node
}

func mustLoad(t *testing.T, l api.Layout, stripes int) []int {
	t.Helper()
	loads, e := Load(l, stripes)
	if e != api.OK {
		t.Fatalf("Load(%+v, %d): %d", l, stripes, e)
	}
	return loads
}

// G1: every layout within the limits is one.
func TestCheckOfGoodLayouts(t *testing.T) {
	for _, l := range good() {
		if e := Check(l); e != api.OK {
			t.Errorf("Check(%+v) = %d", l, e)
		}
	}
}

// G1, P1: the errors in their order.
func TestCheckOfWrongLayouts(t *testing.T) {
	for _, c := range wrongs() {
		if e := Check(c.l); e != c.want {
			t.Errorf("Check(%+v) = %d, want %d", c.l, e, c.want)
		}
	}
}

// G1: all numbers around the limits: what is not good has an error.
func TestCheckAroundTheLimits(t *testing.T) {
	is := map[api.Layout]int{}
	for _, l := range good() {
		is[l] = 1
	}
	for nodes := -1; nodes <= api.MaxNodes+2; nodes++ {
		for data := -1; data <= api.MaxData+2; data++ {
			for more := -1; more <= api.MaxMore+2; more++ {
				for turn := -1; turn <= nodes+1; turn++ {
					l := api.Layout{Nodes: nodes, Data: data, More: more, Turn: turn}
					if e := Check(l); (e == api.OK) != (is[l] == 1) {
						t.Errorf("Check(%+v) = %d", l, e)
					}
				}
			}
		}
	}
}

// G1, P1: the other calls begin with Check, whatever else is wrong, and answer nothing else.
func TestOtherCallsBeginWithCheck(t *testing.T) {
	for _, c := range wrongs() {
		for _, n := range []int{math.MinInt, -1, 0, 1, 64, 65, 512, math.MaxInt} {
			if node, e := Node(c.l, n, n); node != 0 || e != c.want {
				t.Errorf("Node(%+v, %d, %d) = %d, %d, want %d", c.l, n, n, node, e, c.want)
			}
			if piece, has, e := Piece(c.l, n, n); piece != 0 || has || e != c.want {
				t.Errorf("Piece(%+v, %d, %d) = %d, %t, %d, want %d", c.l, n, n, piece, has, e, c.want)
			}
			if stripe, piece, e := Block(c.l, n); stripe != 0 || piece != 0 || e != c.want {
				t.Errorf("Block(%+v, %d) = %d, %d, %d, want %d", c.l, n, stripe, piece, e, c.want)
			}
			if loads, e := Load(c.l, n); len(loads) != 0 || e != c.want {
				t.Errorf("Load(%+v, %d) = %v, %d, want %d", c.l, n, loads, e, c.want)
			}
		}
	}
}

// G2: the example of the document: stripe 1 on nodes 2, 3, 4 and 0.
func TestExample(t *testing.T) {
	l := api.Layout{Nodes: 5, Data: 2, More: 2, Turn: 1}
	for piece, want := range []int{2, 3, 4, 0} {
		if node := mustNode(t, l, 1, piece); node != want {
			t.Errorf("piece %d is on node %d, want %d", piece, node, want)
		}
	}
	if piece, has, e := Piece(l, 1, 1); piece != 0 || has || e != api.OK {
		t.Errorf("node 1 has %d, %t, %d", piece, has, e)
	}
	if stripe, piece, e := Block(l, 3); stripe != 1 || piece != 1 || e != api.OK {
		t.Errorf("block 3 is %d, %d, %d", stripe, piece, e)
	}
}

// G2: of every layout, stripe and piece, by going from node to node.
func TestNodeOfEachPiece(t *testing.T) {
	for _, l := range good() {
		first := l.Turn
		for stripe := range api.MaxStripes {
			want := first
			for piece := range l.Data + l.More {
				if node := mustNode(t, l, stripe, piece); node != want {
					t.Fatalf("Node(%+v, %d, %d) = %d, want %d", l, stripe, piece, node, want)
				}
				if want++; want == l.Nodes {
					want = 0
				}
			}
			if first++; first == l.Nodes {
				first = 0
			}
		}
	}
}

// G2: each node has the piece that Node puts there, and no other one has one.
func TestPieceOfEachNode(t *testing.T) {
	for _, l := range good() {
		for stripe := range api.MaxStripes {
			want := make([]int, l.Nodes)
			for piece := range l.Data + l.More {
				want[mustNode(t, l, stripe, piece)] = piece + 1
			}
			for node, next := range want {
				piece, has, e := Piece(l, stripe, node)
				if e != api.OK || has != (next > 0) || piece != max(next-1, 0) {
					t.Fatalf("Piece(%+v, %d, %d) = %d, %t, %d, want %d", l, stripe, node, piece, has, e, next-1)
				}
			}
		}
	}
}

// G2, P1: ErrRange, and nothing else, of a stripe, a piece or a node that is none.
func TestNodeAndPieceOfWrongInputs(t *testing.T) {
	for _, l := range some() {
		none := func(stripe, piece, node int) {
			if got, e := Node(l, stripe, piece); got != 0 || e != api.ErrRange {
				t.Errorf("Node(%+v, %d, %d) = %d, %d", l, stripe, piece, got, e)
			}
			if got, has, e := Piece(l, stripe, node); got != 0 || has || e != api.ErrRange {
				t.Errorf("Piece(%+v, %d, %d) = %d, %t, %d", l, stripe, node, got, has, e)
			}
		}
		for _, stripe := range outside(api.MaxStripes) {
			none(stripe, 0, 0)
			none(stripe, l.Data, l.Nodes-1)
			none(stripe, stripe, stripe)
		}
		for i, piece := range outside(l.Data + l.More) {
			none(0, piece, outside(l.Nodes)[i])
			none(api.MaxStripes-1, piece, outside(l.Nodes)[i])
		}
	}
}

// G3: blocks go through the pieces of data of a stripe, then through those of the next one.
func TestBlockOfEach(t *testing.T) {
	for _, l := range good() {
		n := 0
		for stripe := range api.MaxStripes {
			for piece := range l.Data {
				if s, p, e := Block(l, n); s != stripe || p != piece || e != api.OK {
					t.Fatalf("Block(%+v, %d) = %d, %d, %d, want %d, %d", l, n, s, p, e, stripe, piece)
				}
				n++
			}
		}
		for _, n := range outside(n) {
			if s, p, e := Block(l, n); s != 0 || p != 0 || e != api.ErrRange {
				t.Errorf("Block(%+v, %d) = %d, %d, %d", l, n, s, p, e)
			}
		}
	}
}

// G3: of each number of stripes as many as Node tells, from none on.
func TestLoadOfEach(t *testing.T) {
	for _, l := range good() {
		want := make([]int, l.Nodes)
		for stripes := range api.MaxStripes + 1 {
			if loads := mustLoad(t, l, stripes); !slices.Equal(loads, want) {
				t.Fatalf("Load(%+v, %d) = %v, want %v", l, stripes, loads, want)
			}
			for piece := 0; stripes < api.MaxStripes && piece < l.Data+l.More; piece++ {
				want[mustNode(t, l, stripes, piece)]++
			}
		}
	}
}

// G3, P1: ErrRange, and nothing else, of too many stripes, or fewer than none.
func TestLoadOfWrongInputs(t *testing.T) {
	for _, l := range some() {
		for _, stripes := range outside(api.MaxStripes + 1) {
			if loads, e := Load(l, stripes); len(loads) != 0 || e != api.ErrRange {
				t.Errorf("Load(%+v, %d) = %v, %d", l, stripes, loads, e)
			}
		}
	}
}

// G4: no node has two pieces of a stripe.
func TestNoNodeHasTwo(t *testing.T) {
	for _, l := range good() {
		for stripe := range api.MaxStripes {
			seen := uint64(0)
			for piece := range l.Data + l.More {
				node := mustNode(t, l, stripe, piece)
				if node < 0 || node >= l.Nodes || seen>>node&1 == 1 {
					t.Fatalf("%+v: piece %d of stripe %d is on node %d", l, piece, stripe, node)
				}
				seen |= 1 << node
			}
		}
	}
}

// G4: of as many stripes as there are nodes each node has as many pieces: one of each number.
func TestLoadIsEven(t *testing.T) {
	for _, l := range good() {
		for stripes := l.Nodes; stripes <= api.MaxStripes; stripes += l.Nodes {
			even := slices.Repeat([]int{stripes / l.Nodes * (l.Data + l.More)}, l.Nodes)
			if loads := mustLoad(t, l, stripes); !slices.Equal(loads, even) {
				t.Fatalf("Load(%+v, %d) = %v, want %v", l, stripes, loads, even)
			}
		}
	}
}

// P2, P3: an answer is the caller's: what is done to it, or asked between, changes no later one.
func TestAnswersStay(t *testing.T) {
	for _, l := range some() {
		first := mustLoad(t, l, 7)
		want := slices.Clone(first)
		other := mustLoad(t, l, 7)
		for i := range first[:cap(first)] {
			first[:cap(first)][i] = -9
		}
		Load(l, api.MaxStripes)
		if again := mustLoad(t, l, 7); !slices.Equal(other, want) || !slices.Equal(again, want) {
			t.Errorf("Load(%+v, 7): %v, then %v, want %v", l, other, again, want)
		}
	}
}
