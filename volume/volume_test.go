package volume

import (
	"math"
	"math/bits"
	"slices"
	"strings"
	"testing"

	"supercargo/api"
	"supercargo/code"
)

// draw gives the same numbers each time.
type draw uint64

func (d *draw) below(n int) int {
	*d = *d*6364136223846793005 + 1442695040888963407
	return int(uint64(*d) >> 33 % uint64(n))
}

func (d *draw) text(bytes int) string {
	out := make([]byte, bytes)
	for i := range out {
		out[i] = byte(d.below(256))
	}
	return string(out)
}

// zeros: so many bytes 0.
func zeros(bytes int) string { return string(make([]byte, bytes)) }

// example of the document: five nodes, two pieces of data and two more, turned by one.
func example() api.Layout { return api.Layout{Nodes: 5, Data: 2, More: 2, Turn: 1} }

// some good layouts: the least one, the greatest ones, and such with nodes to spare.
func some() []api.Layout {
	return []api.Layout{
		{Nodes: 2, Data: 1, More: 1, Turn: 1},
		example(),
		{Nodes: 4, Data: 2, More: 2, Turn: 3},
		{Nodes: 7, Data: 3, More: 1, Turn: 6},
		{Nodes: 12, Data: 8, More: 4, Turn: 11},
		{Nodes: 12, Data: 6, More: 6},
		{Nodes: 9, Data: 1, More: 6, Turn: 4},
	}
}

// nodeOf a piece of a stripe.
func nodeOf(l api.Layout, stripe, piece int) int { return (l.Turn + stripe + piece) % l.Nodes }

// pieceOf a stripe that a node has, or -1.
func pieceOf(l api.Layout, stripe, node int) int {
	for piece := range l.Data + l.More {
		if nodeOf(l, stripe, piece) == node {
			return piece
		}
	}
	return -1
}

// same: are two volumes alike in all that they have?
func same(a, b api.Volume) bool {
	return a.Layout == b.Layout && a.Size == b.Size && slices.Equal(a.Versions, b.Versions) && slices.EqualFunc(a.Nodes, b.Nodes, func(x, y api.Shelf) bool {
		return x.Up == y.Up && slices.Equal(x.Pieces, y.Pieces)
	})
}

// twin of a volume, that shares nothing with it.
func twin(v api.Volume) api.Volume {
	v.Versions, v.Nodes = slices.Clone(v.Versions), slices.Clone(v.Nodes)
	for i := range v.Nodes {
		v.Nodes[i].Pieces = slices.Clone(v.Nodes[i].Pieces)
	}
	return v
}

// made: New without an error.
func made(t *testing.T, l api.Layout, size, stripes int) api.Volume {
	t.Helper()
	v, e := New(l, size, stripes)
	if e != api.OK {
		t.Fatalf("New(%v, %d, %d): %d", l, size, stripes, e)
	}
	return v
}

// good: what a call answers has no error and is a volume, and what it was handed stays.
func good(t *testing.T, v api.Volume, call func(api.Volume) (api.Volume, api.Errno)) api.Volume {
	t.Helper()
	was := twin(v)
	next, e := call(v)
	if e != api.OK {
		t.Fatalf("error %d of %v", e, v)
	}
	if e := Check(next); e != api.OK {
		t.Fatalf("%v makes %v, which is none: %d", v, next, e)
	}
	if !same(v, was) {
		t.Fatalf("there was %v, there is %v", was, v)
	}
	return next
}

func write(t *testing.T, v api.Volume, block int, data string) api.Volume {
	t.Helper()
	return good(t, v, func(v api.Volume) (api.Volume, api.Errno) { return Write(v, block, data) })
}

func set(t *testing.T, v api.Volume, node int, up bool) api.Volume {
	t.Helper()
	return good(t, v, func(v api.Volume) (api.Volume, api.Errno) { return Set(v, node, up) })
}

func wipe(t *testing.T, v api.Volume, node int) api.Volume {
	t.Helper()
	return good(t, v, func(v api.Volume) (api.Volume, api.Errno) { return Wipe(v, node) })
}

// is: what a volume must be.
func is(t *testing.T, v, want api.Volume) {
	t.Helper()
	if !same(v, want) {
		t.Fatalf("it is\n%v, want\n%v", v, want)
	}
}

// reads: what Read must answer.
func reads(t *testing.T, v api.Volume, block int, want string, e api.Errno) {
	t.Helper()
	if got, f := Read(v, block); got != want || f != e {
		t.Fatalf("Read(%v, %d) = %q, %d, want %q, %d", v, block, got, f, want, e)
	}
}

// fresh: what Fresh must answer.
func fresh(t *testing.T, v api.Volume, stripe int, want uint64, e api.Errno) {
	t.Helper()
	if got, f := Fresh(v, stripe); got != want || f != e {
		t.Fatalf("Fresh(%v, %d) = %b, %d, want %b, %d", v, stripe, got, f, want, e)
	}
}

// fails: what Write must answer, and nothing beside it; what it was handed stays.
func fails(t *testing.T, v api.Volume, block int, data string, want api.Errno) {
	t.Helper()
	was := twin(v)
	if next, e := Write(v, block, data); e != want || !same(next, api.Volume{}) {
		t.Errorf("Write(%v, %d, %q) = %v, %d, want %d", v, block, data, next, e, want)
	}
	if !same(v, was) {
		t.Errorf("there was %v, there is %v", was, v)
	}
}

// R1: all nodes are up, and each one has just its pieces, of noughts, of version 1.
func TestNew(t *testing.T) {
	for _, l := range some() {
		for _, size := range []int{1, 2, api.MaxBlock} {
			for _, stripes := range []int{1, 3, api.MaxStripes} {
				v := made(t, l, size, stripes)
				if v.Layout != l || v.Size != size || len(v.Nodes) != l.Nodes || !slices.Equal(v.Versions, slices.Repeat([]int{1}, stripes)) {
					t.Fatalf("New(%v, %d, %d) = %v", l, size, stripes, v)
				}
				for node, shelf := range v.Nodes {
					if !shelf.Up || len(shelf.Pieces) != stripes {
						t.Fatalf("New(%v, %d, %d) has %v", l, size, stripes, shelf)
					}
					for stripe, p := range shelf.Pieces {
						want := api.Piece{}
						if pieceOf(l, stripe, node) >= 0 {
							want = api.Piece{Version: 1, Data: zeros(size)}
						}
						if p != want {
							t.Fatalf("New(%v, %d, %d): node %d has %v of stripe %d", l, size, stripes, node, p, stripe)
						}
					}
				}
				if e := Check(v); e != api.OK {
					t.Fatalf("Check(%v) = %d", v, e)
				}
			}
		}
	}
}

// R1, P1: Check of the layout, then ErrRange of size and stripes, and nothing else.
func TestNewOfWrongInputs(t *testing.T) {
	none := func(l api.Layout, size, stripes int, want api.Errno) {
		t.Helper()
		if v, e := New(l, size, stripes); e != want || !same(v, api.Volume{}) {
			t.Errorf("New(%v, %d, %d) = %v, %d, want %d", l, size, stripes, v, e, want)
		}
	}
	for _, n := range []int{math.MinInt, -1, 0, api.MaxBlock + 1, math.MaxInt} {
		none(example(), n, 3, api.ErrRange)
		none(example(), 2, n, api.ErrRange)
		none(example(), n, n, api.ErrRange)
	}
	for _, n := range []int{-1, 0, 1, 64, 65} {
		none(api.Layout{}, n, 3, api.ErrRange)
		none(api.Layout{Nodes: 3, Data: 2, More: 2}, n, n, api.ErrFew)
		none(api.Layout{Nodes: 3, Data: 2, More: 2, Turn: 9}, 2, n, api.ErrFew)
		none(api.Layout{Nodes: 5, Data: 2, More: 2, Turn: 5}, n, 3, api.ErrRange)
	}
}

// busy: the example's volume of three stripes, of which some is written: node 3 is down and behind, node 4 is wiped.
func busy(t *testing.T) api.Volume {
	t.Helper()
	v := made(t, example(), 2, 3)
	v = write(t, v, 3, "ab")
	v = set(t, v, 3, false)
	v = write(t, v, 2, "cd")
	return wipe(t, v, 4)
}

// piece of a volume: of a node and a stripe.
func piece(v api.Volume, node, stripe int) *api.Piece { return &v.Nodes[node].Pieces[stripe] }

// R2: what is good, at the limits, whatever stands in the pieces.
func TestCheckOfGoodVolumes(t *testing.T) {
	for i, change := range []func(v *api.Volume){
		func(v *api.Volume) {},
		func(v *api.Volume) { v.Nodes[0].Up = false },
		func(v *api.Volume) { piece(*v, 1, 0).Data = "\xff\x00" },
		func(v *api.Volume) { piece(*v, 1, 0).Version = 0 },
		func(v *api.Volume) { v.Versions[0] = api.MaxTime },
		func(v *api.Volume) { v.Versions[0], piece(*v, 1, 0).Version = api.MaxTime, api.MaxTime },
		func(v *api.Volume) { v.Versions[0], piece(*v, 1, 0).Version = 9, 8 },
	} {
		v := busy(t)
		change(&v)
		if e := Check(v); e != api.OK {
			t.Errorf("%d: Check(%v) = %d", i, v, e)
		}
	}
}

// fault: what spoils a volume, and what Check answers then.
type fault struct {
	spoil func(*api.Volume)
	want  api.Errno
}

// wholeFaults of the busy volume, in the order in which R2 names them.
func wholeFaults() []fault {
	return []fault{
		{func(v *api.Volume) { v.Layout = api.Layout{} }, api.ErrRange},
		{func(v *api.Volume) { v.Layout.Nodes = 3 }, api.ErrFew},
		{func(v *api.Volume) { v.Layout.Turn = 5 }, api.ErrRange},
		{func(v *api.Volume) { v.Size = 0 }, api.ErrRange},
		{func(v *api.Volume) { v.Size = api.MaxBlock + 1 }, api.ErrRange},
		{func(v *api.Volume) { v.Size = -1 }, api.ErrRange},
		{func(v *api.Volume) { v.Versions = nil }, api.ErrRange},
		{func(v *api.Volume) { v.Versions = slices.Repeat([]int{1}, api.MaxStripes+1) }, api.ErrRange},
		{func(v *api.Volume) { v.Versions[0] = 0 }, api.ErrRange},
		{func(v *api.Volume) { v.Versions[2] = -1 }, api.ErrRange},
		{func(v *api.Volume) { v.Versions[1] = api.MaxTime + 1 }, api.ErrRange},
		{func(v *api.Volume) { v.Nodes = v.Nodes[1:] }, api.ErrForm},
		{func(v *api.Volume) { v.Nodes = append(v.Nodes, api.Shelf{Pieces: make([]api.Piece, 3)}) }, api.ErrForm},
		{func(v *api.Volume) { v.Nodes = nil }, api.ErrForm},
		{func(v *api.Volume) { v.Versions = v.Versions[:2] }, api.ErrForm},
		{func(v *api.Volume) { v.Layout.Nodes = 4 }, api.ErrForm},
		{func(v *api.Volume) { v.Layout.Nodes = 6 }, api.ErrForm},
		{func(v *api.Volume) { v.Nodes[4].Pieces = v.Nodes[4].Pieces[1:] }, api.ErrForm},
		{func(v *api.Volume) { v.Nodes[0].Pieces = nil }, api.ErrForm},
		{func(v *api.Volume) { v.Nodes[1].Pieces = append(v.Nodes[1].Pieces, api.Piece{}) }, api.ErrForm},
	}
}

// pieceFaults of the busy volume, in the order in which R2 names them: node by node, stripe by stripe. Nodes 0, 1 and 2 have no piece of stripes 0, 1 and 2.
func pieceFaults() []fault {
	put := func(node, stripe int, p api.Piece) func(*api.Volume) {
		return func(v *api.Volume) { *piece(*v, node, stripe) = p }
	}
	return []fault{
		{put(0, 0, api.Piece{Version: 1}), api.ErrForm},
		{put(0, 0, api.Piece{Version: -1}), api.ErrForm},
		{put(0, 0, api.Piece{Version: 1, Data: "xy"}), api.ErrForm},
		{put(0, 0, api.Piece{Data: "\x00\x00"}), api.ErrForm},
		{put(0, 1, api.Piece{Version: -1, Data: "xy"}), api.ErrRange},
		{put(0, 2, api.Piece{Version: 9}), api.ErrForm},
		{put(1, 0, api.Piece{}), api.ErrForm},
		{put(1, 0, api.Piece{Version: 2, Data: "xyz"}), api.ErrForm},
		{put(1, 0, api.Piece{Version: 2, Data: "xy"}), api.ErrRange},
		{put(1, 1, api.Piece{Data: "x"}), api.ErrForm},
		{put(1, 2, api.Piece{Version: math.MaxInt, Data: "xy"}), api.ErrRange},
		{put(2, 1, api.Piece{Version: 4, Data: "xy"}), api.ErrRange},
		{put(2, 2, api.Piece{Data: "xy"}), api.ErrForm},
		{put(3, 0, api.Piece{Version: 1, Data: "x"}), api.ErrForm},
		{put(3, 1, api.Piece{Version: math.MinInt, Data: "xy"}), api.ErrRange},
		{put(4, 0, api.Piece{Version: 1, Data: strings.Repeat("x", 65)}), api.ErrForm},
		{put(4, 2, api.Piece{Version: 2, Data: "xy"}), api.ErrRange},
	}
}

// wrong: a volume of which Check, and all else, must answer that, whatever else is wrong.
func wrong(t *testing.T, v api.Volume, want api.Errno) {
	t.Helper()
	if e := Check(v); e != want {
		t.Errorf("Check(%v) = %d, want %d", v, e, want)
	}
	for _, n := range []int{-1, 0, 1, 99} {
		fresh(t, v, n, 0, want)
		reads(t, v, n, "", want)
		fails(t, v, n, "xy", want)
		fails(t, v, n, "", want)
		if next, e := Set(v, n, true); e != want || !same(next, api.Volume{}) {
			t.Errorf("Set(%v, %d, true) = %v, %d, want %d", v, n, next, e, want)
		}
		if next, e := Wipe(v, n); e != want || !same(next, api.Volume{}) {
			t.Errorf("Wipe(%v, %d) = %v, %d, want %d", v, n, next, e, want)
		}
	}
}

// R2 to R5, P1: each fault tells, and of two the one that R2 names first; to the other calls too, and with nothing beside it.
func TestWrongVolumes(t *testing.T) {
	whole, pieces := wholeFaults(), pieceFaults()
	for _, f := range slices.Concat(whole, pieces) {
		v := busy(t)
		f.spoil(&v)
		wrong(t, v, f.want)
	}
	for _, first := range whole {
		for _, second := range pieces {
			v := busy(t)
			second.spoil(&v)
			first.spoil(&v)
			if e := Check(v); e != first.want {
				t.Errorf("Check(%v) = %d, want %d", v, e, first.want)
			}
		}
	}
	for i, first := range pieces {
		for _, second := range pieces[i+1:] {
			v := busy(t)
			second.spoil(&v)
			first.spoil(&v)
			if e := Check(v); e != first.want {
				t.Errorf("Check(%v) = %d, want %d", v, e, first.want)
			}
		}
	}
}

// R2: of two faults of the whole the one that R2 names first, where both can be.
func TestWholeFaultsInOrder(t *testing.T) {
	for _, c := range []struct {
		spoil func(*api.Volume)
		want  api.Errno
	}{
		{func(v *api.Volume) { v.Layout.Nodes, v.Size = 3, 0 }, api.ErrFew},
		{func(v *api.Volume) { v.Layout.Nodes, v.Nodes = 3, nil }, api.ErrFew},
		{func(v *api.Volume) { v.Size, v.Nodes = 0, nil }, api.ErrRange},
		{func(v *api.Volume) { v.Versions, v.Nodes = nil, nil }, api.ErrRange},
		{func(v *api.Volume) { v.Versions[2], v.Nodes = 0, v.Nodes[1:] }, api.ErrRange},
		{func(v *api.Volume) { v.Versions[0], v.Nodes[0].Pieces = api.MaxTime+1, nil }, api.ErrRange},
		{func(v *api.Volume) { v.Size, v.Nodes[4].Pieces = 65, nil }, api.ErrRange},
		{func(v *api.Volume) { v.Size, v.Nodes[4].Pieces = 64, nil }, api.ErrForm},
		{func(v *api.Volume) { piece(*v, 0, 1).Version, v.Nodes[4].Pieces = 9, nil }, api.ErrForm},
	} {
		v := busy(t)
		c.spoil(&v)
		wrong(t, v, c.want)
	}
}

// R3: just the nodes that are up and have a piece of the stripe's version.
func TestFresh(t *testing.T) {
	v := made(t, example(), 2, 3)
	for stripe, want := range []uint64{0b11110, 0b11101, 0b11011} {
		fresh(t, v, stripe, want, api.OK)
	}
	v = busy(t)
	for stripe, want := range []uint64{0b00110, 0b00101, 0b00011} {
		fresh(t, v, stripe, want, api.OK)
	}
	v = set(t, v, 3, true)
	for stripe, want := range []uint64{0b01110, 0b00101, 0b01011} {
		fresh(t, v, stripe, want, api.OK)
	}
	piece(v, 2, 1).Version--
	piece(v, 0, 1).Version = 0
	piece(v, 3, 1).Version = v.Versions[1]
	fresh(t, v, 1, 0b01000, api.OK)
	for node := range v.Nodes {
		v.Nodes[node].Up = false
	}
	fresh(t, v, 1, 0, api.OK)
}

// R3: of each stripe of each layout, of nodes that are up or not and pieces of any versions.
func TestFreshOfAny(t *testing.T) {
	d := draw(1)
	for _, l := range some() {
		for range 40 {
			v := made(t, l, 1, 1+d.below(api.MaxStripes))
			want := make([]uint64, len(v.Versions))
			for stripe := range v.Versions {
				v.Versions[stripe] = 1 + d.below(3)
			}
			for node := range v.Nodes {
				v.Nodes[node].Up = d.below(3) > 0
				for stripe, top := range v.Versions {
					if pieceOf(l, stripe, node) < 0 {
						continue
					}
					version := max(0, top-d.below(3))
					piece(v, node, stripe).Version = version
					if v.Nodes[node].Up && version == top {
						want[stripe] |= 1 << node
					}
				}
			}
			for stripe := range want {
				fresh(t, v, stripe, want[stripe], api.OK)
			}
		}
	}
}

// R3, P1: ErrRange of a stripe that is none, the layout's others too.
func TestFreshOfWrongInputs(t *testing.T) {
	for _, stripe := range []int{math.MinInt, -1, 3, 4, 63, 64, math.MaxInt} {
		fresh(t, busy(t), stripe, 0, api.ErrRange)
	}
	v := made(t, example(), 1, api.MaxStripes)
	fresh(t, v, 63, 0b11110<<3&0b11111|0b11110>>2, api.OK)
	fresh(t, v, 64, 0, api.ErrRange)
}

// full: a volume of which each block was written, and what was.
func full(t *testing.T, d *draw, l api.Layout, size, stripes int) (api.Volume, []string) {
	t.Helper()
	v, texts := made(t, l, size, stripes), make([]string, stripes*l.Data)
	for block := range texts {
		texts[block] = d.text(size)
		v = write(t, v, block, texts[block])
	}
	return v, texts
}

// R4: of all sets of nodes that are down: what was written, if as many others have a piece of the stripe as there are of data, or more, else ErrFew, on a node that is up too.
func TestReadWhateverIsDown(t *testing.T) {
	d := draw(2)
	for _, l := range []api.Layout{{Nodes: 2, Data: 1, More: 1, Turn: 1}, example(), {Nodes: 6, Data: 3, More: 2, Turn: 5}, {Nodes: 7, Data: 1, More: 6, Turn: 2}} {
		v, texts := full(t, &d, l, 3, 2)
		for down := range uint64(1) << l.Nodes {
			for node := range v.Nodes {
				v.Nodes[node].Up = down>>node&1 == 0
			}
			for block, text := range texts {
				up := 0
				for p := range l.Data + l.More {
					if down>>nodeOf(l, block/l.Data, p)&1 == 0 {
						up++
					}
				}
				if up < l.Data {
					reads(t, v, block, "", api.ErrFew)
				} else {
					reads(t, v, block, text, api.OK)
				}
			}
		}
	}
}

// R4, R6: the example of the document: block 3 with node 3 down and node 4 wiped, then with node 2 down, too.
func TestExample(t *testing.T) {
	v := write(t, made(t, example(), 2, 3), 3, "ab")
	v = wipe(t, set(t, v, 3, false), 4)
	reads(t, v, 3, "ab", api.OK)
	reads(t, set(t, v, 2, false), 3, "", api.ErrFew)
	reads(t, set(t, set(t, v, 2, false), 3, true), 3, "ab", api.OK)
}

// R4: of pieces that do not fit each other: a fresh one is its own, any other one what Rebuild makes of the fresh ones of the lesser numbers.
func TestReadOfPiecesThatDoNotFit(t *testing.T) {
	d := draw(3)
	rebuilt := 0
	for range 600 {
		l := some()[d.below(len(some()))]
		v := made(t, l, 2, 3)
		for node := range v.Nodes {
			v.Nodes[node].Up = d.below(5) > 0
			for stripe := range v.Versions {
				if pieceOf(l, stripe, node) >= 0 {
					*piece(v, node, stripe) = api.Piece{Version: 1 - d.below(8)/7, Data: d.text(2)}
				}
			}
		}
		for block := range 3 * l.Data {
			var at []int
			var pieces []string
			for p := range l.Data + l.More {
				node := nodeOf(l, block/l.Data, p)
				if on := piece(v, node, block/l.Data); v.Nodes[node].Up && on.Version == 1 {
					at, pieces = append(at, p), append(pieces, on.Data)
				}
			}
			if len(at) < l.Data {
				reads(t, v, block, "", api.ErrFew)
				continue
			}
			data, e := code.Rebuild(l.Data, l.More, at[:l.Data], pieces[:l.Data])
			if e != api.OK {
				t.Fatalf("%v, %q: %d", at, pieces, e)
			}
			want := data[block%l.Data]
			if i := slices.Index(at, block%l.Data); i >= 0 {
				want = pieces[i]
			} else {
				rebuilt++
			}
			reads(t, v, block, want, api.OK)
		}
	}
	if rebuilt < 500 {
		t.Errorf("only %d were rebuilt", rebuilt)
	}
}

// R4, P1: ErrRange of a block that is none, the layout's others too, ahead of ErrFew.
func TestReadOfWrongInputs(t *testing.T) {
	v := busy(t)
	few := set(t, set(t, v, 0, false), 1, false)
	for _, block := range []int{math.MinInt, -1, 6, 7, 127, 128, math.MaxInt} {
		reads(t, v, block, "", api.ErrRange)
		reads(t, few, block, "", api.ErrRange)
		fails(t, v, block, "xy", api.ErrRange)
		fails(t, few, block, "xyz", api.ErrRange)
	}
	for block := range 6 {
		reads(t, few, block, "", api.ErrFew)
	}
	most := made(t, api.Layout{Nodes: 12, Data: 8, More: 4}, 1, api.MaxStripes)
	reads(t, most, 511, "\x00", api.OK)
	reads(t, most, 512, "", api.ErrRange)
}

// R5: writes that were reckoned by hand, each with all that it leaves.
func TestWriteByHand(t *testing.T) {
	v := made(t, example(), 2, 3)
	want := twin(v)
	put := func(node, version int, data string) { *piece(want, node, 1) = api.Piece{Version: version, Data: data} }
	v = write(t, v, 3, "ab")
	want.Versions[1] = 2
	put(2, 2, "\x00\x00")
	put(3, 2, "ab")
	put(4, 2, "\xd4\xd5")
	put(0, 2, "\xbe\x31")
	is(t, v, want)
	v = write(t, v, 2, "cd")
	want.Versions[1] = 3
	put(2, 3, "cd")
	put(3, 3, "ab")
	put(4, 3, "\x6b\xe7")
	put(0, 3, "\x9f\xe6")
	is(t, v, want)
	v = set(t, v, 3, false)
	want.Nodes[3].Up = false
	is(t, v, want)
	v = write(t, v, 3, "ef") // node 3 has what it had
	want.Versions[1] = 4
	put(2, 4, "cd")
	put(4, 4, "\x9c\x10")
	put(0, 4, "\x9d\xe4")
	is(t, v, want)
	v = wipe(t, v, 4)
	want.Nodes[4].Pieces = slices.Repeat([]api.Piece{{Data: "\x00\x00"}}, 3)
	is(t, v, want)
	v = write(t, v, 2, "cd") // the same bytes are a version more all the same, and node 4 has its piece again
	want.Versions[1] = 5
	put(2, 5, "cd")
	put(4, 5, "\x9c\x10")
	put(0, 5, "\x9d\xe4")
	is(t, v, want)
	v = wipe(t, v, 2)
	*piece(want, 2, 0), *piece(want, 2, 1), *piece(want, 2, 2) = api.Piece{Data: "\x00\x00"}, api.Piece{Data: "\x00\x00"}, api.Piece{}
	is(t, v, want)
}

// R5: of each layout, whatever is written: the pieces are those of Encode, and nothing of another stripe changes.
func TestWriteIsEncode(t *testing.T) {
	d := draw(4)
	for _, l := range some() {
		v, texts := full(t, &d, l, 3, 3)
		for range 20 {
			block := d.below(len(texts))
			stripe := block / l.Data
			texts[block] = d.text(3)
			want := twin(v)
			want.Versions[stripe]++
			data := texts[stripe*l.Data : (stripe+1)*l.Data]
			more, _ := code.Encode(data, l.More)
			for p, text := range slices.Concat(data, more) {
				*piece(want, nodeOf(l, stripe, p), stripe) = api.Piece{Version: want.Versions[stripe], Data: text}
			}
			v = write(t, v, block, texts[block])
			is(t, v, want)
		}
	}
}

// R5: of pieces that do not fit each other all other blocks stay what they were read as.
func TestOthersStay(t *testing.T) {
	d := draw(5)
	written := 0
	for range 300 {
		l := some()[d.below(len(some()))]
		v, texts := full(t, &d, l, 2, 2)
		for node := range v.Nodes {
			v.Nodes[node].Up = d.below(6) > 0
			for stripe := range v.Versions {
				if pieceOf(l, stripe, node) >= 0 && d.below(3) == 0 {
					piece(v, node, stripe).Data = d.text(2)
				}
			}
		}
		block, text := d.below(len(texts)), d.text(2)
		next, e := Write(v, block, text)
		if e != api.OK {
			continue
		}
		written++
		for other := range texts {
			if other == block {
				reads(t, next, other, text, api.OK)
				continue
			}
			was, e := Read(v, other)
			reads(t, next, other, was, e)
		}
	}
	if written < 150 {
		t.Errorf("only %d were written", written)
	}
}

// R5, P1: ErrRange, ErrForm, ErrFew, ErrMany, in this order, and nothing else.
func TestWriteOfWrongInputs(t *testing.T) {
	v := busy(t)
	few := set(t, set(t, v, 0, false), 1, false)
	last, lastFew := twin(v), twin(few)
	for _, x := range []api.Volume{last, lastFew} {
		for node := range x.Nodes {
			if p := piece(x, node, 1); p.Version == x.Versions[1] {
				p.Version = api.MaxTime
			}
		}
		x.Versions[1] = api.MaxTime
	}
	for _, data := range []string{"", "x", "xyz", zeros(64), zeros(65)} {
		for _, x := range []api.Volume{v, few, last, lastFew} {
			fails(t, x, 3, data, api.ErrForm)
			fails(t, x, 6, data, api.ErrRange)
		}
	}
	fails(t, few, 3, "xy", api.ErrFew)
	fails(t, lastFew, 3, "xy", api.ErrFew)
	fails(t, last, 3, "xy", api.ErrMany)
	fails(t, last, 2, "cd", api.ErrMany)
	if next := write(t, last, 0, "xy"); next.Versions[0] != 2 || next.Versions[1] != api.MaxTime {
		t.Errorf("%v", next)
	}
	reads(t, last, 2, "cd", api.OK)
	last.Versions[1]--
	for node := range last.Nodes {
		if p := piece(last, node, 1); p.Version == api.MaxTime {
			p.Version--
		}
	}
	last = write(t, last, 2, "xy")
	reads(t, last, 2, "xy", api.OK)
	fails(t, last, 2, "zz", api.ErrMany)
}

// R5: Set changes whether a node is up, and nothing else, be it so already.
func TestSet(t *testing.T) {
	for node := range 5 {
		for _, up := range []bool{true, false} {
			v := busy(t)
			want := twin(v)
			want.Nodes[node].Up = up
			v = set(t, v, node, up)
			is(t, v, want)
			is(t, set(t, v, node, up), want)
		}
	}
}

// R5: Wipe leaves a node its places, up or not, and all other nodes all.
func TestWipe(t *testing.T) {
	for node := range 5 {
		v := busy(t)
		want := twin(v)
		for stripe := range 3 {
			if pieceOf(v.Layout, stripe, node) >= 0 {
				*piece(want, node, stripe) = api.Piece{Data: "\x00\x00"}
			}
		}
		v = wipe(t, v, node)
		is(t, v, want)
		is(t, wipe(t, v, node), want)
	}
}

// R5, P1: ErrRange of a node that is none, and nothing else.
func TestSetAndWipeOfWrongInputs(t *testing.T) {
	for _, node := range []int{math.MinInt, -1, 5, 6, 11, 12, math.MaxInt} {
		for _, up := range []bool{true, false} {
			if v, e := Set(busy(t), node, up); e != api.ErrRange || !same(v, api.Volume{}) {
				t.Errorf("Set(%d, %t) = %v, %d", node, up, v, e)
			}
		}
		if v, e := Wipe(busy(t), node); e != api.ErrRange || !same(v, api.Volume{}) {
			t.Errorf("Wipe(%d) = %v, %d", node, v, e)
		}
	}
}

// story of a volume: what was written last, which nodes are up, and which have the last piece of each stripe.
type story struct {
	t      *testing.T
	v      api.Volume
	texts  []string
	up     uint64
	latest []uint64
	// how many blocks were read on a node that is not fresh, and how often there were too few
	rebuilt, few int
}

// owners of a stripe's pieces.
func (s *story) owners(stripe int) uint64 {
	set := uint64(0)
	for p := range s.v.Layout.Data + s.v.Layout.More {
		set |= 1 << nodeOf(s.v.Layout, stripe, p)
	}
	return set
}

// enough: are as many of the stripe fresh as there are pieces of data?
func (s *story) enough(stripe int) bool {
	return bits.OnesCount64(s.up&s.latest[stripe]) >= s.v.Layout.Data
}

func (s *story) write(block int, text string) {
	stripe := block / s.v.Layout.Data
	next, e := Write(s.v, block, text)
	if !s.enough(stripe) {
		if e != api.ErrFew {
			s.t.Fatalf("Write(%v, %d, %q): %d", s.v, block, text, e)
		}
		return
	}
	if e != api.OK {
		s.t.Fatalf("Write(%v, %d, %q): %d", s.v, block, text, e)
	}
	s.v, s.texts[block], s.latest[stripe] = next, text, s.up&s.owners(stripe)
}

func (s *story) set(node int, up bool) {
	s.v = set(s.t, s.v, node, up)
	s.up &^= 1 << node
	if up {
		s.up |= 1 << node
	}
}

func (s *story) wipe(node int) {
	s.v = wipe(s.t, s.v, node)
	for stripe := range s.latest {
		s.latest[stripe] &^= 1 << node
	}
}

// readAll: what is read is what was written last, or there is ErrFew.
func (s *story) readAll() {
	for block, text := range s.texts {
		stripe, piece := block/s.v.Layout.Data, block%s.v.Layout.Data
		fresh(s.t, s.v, stripe, s.up&s.latest[stripe], api.OK)
		if !s.enough(stripe) {
			reads(s.t, s.v, block, "", api.ErrFew)
			s.few++
			continue
		}
		reads(s.t, s.v, block, text, api.OK)
		if s.up&s.latest[stripe]>>nodeOf(s.v.Layout, stripe, piece)&1 == 0 {
			s.rebuilt++
		}
	}
}

// R6: whatever nodes are away, and wiped, and come back.
func TestWhatIsReadWasWrittenLast(t *testing.T) {
	d := draw(6)
	rebuilt, few := 0, 0
	for _, l := range some() {
		for range 8 {
			s := &story{t: t, v: made(t, l, 2, 2), texts: slices.Repeat([]string{zeros(2)}, 2*l.Data), up: 1<<l.Nodes - 1}
			s.latest = []uint64{s.owners(0), s.owners(1)}
			for range 60 {
				node := d.below(l.Nodes)
				switch d.below(12) {
				case 0, 1:
					s.set(node, false)
				case 2, 3, 4:
					s.set(node, true)
				case 5:
					s.wipe(node)
				default:
					s.write(d.below(len(s.texts)), d.text(2))
				}
				s.readAll()
			}
			rebuilt, few = rebuilt+s.rebuilt, few+s.few
		}
	}
	if rebuilt < 1000 || few < 1000 {
		t.Errorf("only %d were rebuilt, and %d times there were too few", rebuilt, few)
	}
}

// roomy: the busy volume, each list with room behind it in which something stands; and whether all of that stays.
func roomy(t *testing.T) (api.Volume, func() bool) {
	whole := busy(t)
	whole.Versions = append(whole.Versions, 77, 88)
	for i := range whole.Nodes {
		whole.Nodes[i].Pieces = append(whole.Nodes[i].Pieces, api.Piece{Version: 77, Data: "room"}, api.Piece{Version: 88})
	}
	was, v := twin(whole), whole
	room := append(slices.Clone(whole.Nodes), api.Shelf{Up: true}, api.Shelf{Pieces: []api.Piece{{Version: 7}}})
	for i := range 5 {
		room[i].Pieces = room[i].Pieces[:3]
	}
	v.Versions, v.Nodes = whole.Versions[:3], room[:5]
	return v, func() bool {
		for i, shelf := range room[:5] {
			if shelf.Up != was.Nodes[i].Up || len(shelf.Pieces) != 3 {
				return false
			}
		}
		return same(whole, was) && room[5].Up && !room[6].Up && slices.Equal(room[6].Pieces, []api.Piece{{Version: 7}})
	}
}

// scribble over all that a volume has, and the room behind it.
func scribble(v api.Volume) {
	for _, shelf := range v.Nodes {
		all := shelf.Pieces[:cap(shelf.Pieces)]
		for i := range all {
			all[i] = api.Piece{Version: -9, Data: "scribble"}
		}
	}
	clear(v.Nodes[:cap(v.Nodes)])
	clear(v.Versions[:cap(v.Versions)])
}

// P2: what is handed in is only read, the room behind it too; an answer is new memory, and does not change with what was handed in, nor this with it.
func TestInputsAreOnlyRead(t *testing.T) {
	for i, call := range []func(api.Volume) api.Volume{
		func(v api.Volume) api.Volume { v, _ = Write(v, 2, "xy"); return v },
		func(v api.Volume) api.Volume { v, _ = Write(v, 5, "\x00\x00"); return v },
		func(v api.Volume) api.Volume { v, _ = Set(v, 2, false); return v },
		func(v api.Volume) api.Volume { v, _ = Set(v, 2, true); return v },
		func(v api.Volume) api.Volume { v, _ = Wipe(v, 0); return v },
		func(v api.Volume) api.Volume { v, _ = Wipe(v, 4); return v },
		func(v api.Volume) api.Volume { Read(v, 2); Fresh(v, 1); Check(v); return made(t, v.Layout, 2, 3) },
	} {
		v, stays := roomy(t)
		next := call(v)
		if len(next.Nodes) != 5 || !stays() {
			t.Fatalf("%d changed what it was handed: %v", i, v)
		}
		was := twin(next)
		scribble(v)
		if !same(next, was) {
			t.Errorf("%d: what it answered changed: %v", i, next)
		}
		v, stays = roomy(t)
		scribble(call(v))
		if !stays() {
			t.Errorf("%d: what it was handed changed with the answer: %v", i, v)
		}
	}
}

// P2: no two lists of an answer share memory.
func TestListsAreApart(t *testing.T) {
	for i, v := range []api.Volume{made(t, example(), 2, 3), write(t, busy(t), 2, "xy"), set(t, busy(t), 2, false), wipe(t, busy(t), 2)} {
		was := twin(v)
		for node, shelf := range v.Nodes {
			all := shelf.Pieces[:cap(shelf.Pieces)]
			for i := range all {
				all[i] = api.Piece{Version: -9, Data: "scribble"}
			}
			for other := node + 1; other < len(v.Nodes); other++ {
				if !slices.Equal(v.Nodes[other].Pieces, was.Nodes[other].Pieces) {
					t.Fatalf("%d: nodes %d and %d share memory", i, node, other)
				}
			}
		}
	}
}

// P3: calls between, and what is done to their answers, change no answer.
func TestAnswersStay(t *testing.T) {
	v := busy(t)
	first := write(t, v, 2, "xy")
	was := twin(first)
	scribble(first)
	scribble(made(t, example(), 2, 3))
	scribble(wipe(t, v, 0))
	Read(api.Volume{}, 0)
	reads(t, v, 3, "ab", api.OK)
	is(t, write(t, v, 2, "xy"), was)
	reads(t, v, 3, "ab", api.OK)
}

// P1: no call panics, whatever it is handed; with an error the rest is zero, and without one there is a volume.
func TestNoPanic(t *testing.T) {
	d := draw(7)
	odd := func() int {
		if d.below(8) > 0 {
			return d.below(6)
		}
		return []int{math.MinInt, -1, 12, 64, 65, 1000000, 1000001, math.MaxInt}[d.below(8)]
	}
	written := 0
	for range 5000 {
		v := busy(t)
		switch d.below(6) {
		case 0:
			v.Layout = api.Layout{Nodes: odd(), Data: odd(), More: odd(), Turn: odd()}
		case 1:
			v.Size = odd()
		case 2:
			v.Versions = append(v.Versions[:d.below(4)], odd())
		case 3:
			v.Nodes = append(v.Nodes[:d.below(6)], api.Shelf{Up: true, Pieces: make([]api.Piece, d.below(5))})
		case 4:
			*piece(v, d.below(5), d.below(3)) = api.Piece{Version: odd(), Data: d.text(d.below(4))}
		}
		a, b := odd(), d.text(2-d.below(9)/8)
		next, e := Write(v, a, b)
		text, f := Read(v, a)
		nodes, g := Fresh(v, a)
		up, h := Set(v, a, d.below(2) == 0)
		wiped, i := Wipe(v, a)
		if e != api.OK && !same(next, api.Volume{}) || f != api.OK && text != "" || g != api.OK && nodes != 0 || h != api.OK && !same(up, api.Volume{}) || i != api.OK && !same(wiped, api.Volume{}) {
			t.Fatalf("%v, %d, %q: %v %d, %q %d, %d %d, %v %d, %v %d", v, a, b, next, e, text, f, nodes, g, up, h, wiped, i)
		}
		for _, made := range []api.Volume{next, up, wiped} {
			if len(made.Nodes) > 0 && Check(made) != api.OK {
				t.Fatalf("%v, %d, %q: %v", v, a, b, made)
			}
		}
		if e == api.OK {
			written++
			reads(t, next, a, b, api.OK)
		}
	}
	if written < 500 {
		t.Errorf("only %d were written", written)
	}
}
