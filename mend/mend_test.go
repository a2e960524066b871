package mend

import (
	"math"
	"math/bits"
	"slices"
	"strings"
	"testing"

	"supercargo/api"
	"supercargo/code"
	"supercargo/volume"
)

// draw gives the same numbers each time.
type draw uint64

func (d *draw) below(n int) int {
	*d = *d*6364136223846793005 + 1442695040888963407
	return int(uint64(*d) >> 33 % uint64(n))
}

func (d *draw) text(bytes int) string {
	out := make([]byte, bytes)
	for i := range out {
		out[i] = byte(d.below(256))
	}
	return string(out)
}

// other text, as long, of which at least one byte is another one.
func (d *draw) other(text string) string {
	out := []byte(text)
	for i := range out {
		if d.below(3) == 0 {
			out[i] = byte(d.below(256))
		}
	}
	i := d.below(len(out))
	out[i] = text[i] + byte(1+d.below(255))
	return string(out)
}

// example of the document: five nodes, two pieces of data and two more, turned by one.
func example() api.Layout { return api.Layout{Nodes: 5, Data: 2, More: 2, Turn: 1} }

// some good layouts: the least one, the greatest ones, and such with nodes to spare.
func some() []api.Layout {
	return []api.Layout{
		{Nodes: 2, Data: 1, More: 1, Turn: 1},
		example(),
		{Nodes: 3, Data: 1, More: 2},
		{Nodes: 6, Data: 2, More: 3, Turn: 1},
		{Nodes: 7, Data: 3, More: 1, Turn: 6},
		{Nodes: 12, Data: 8, More: 4, Turn: 11},
		{Nodes: 12, Data: 6, More: 6},
		{Nodes: 9, Data: 1, More: 6, Turn: 4},
	}
}

// nodeOf a piece of a stripe.
func nodeOf(l api.Layout, stripe, piece int) int { return (l.Turn + stripe + piece) % l.Nodes }

// pieceOf a stripe that a node has, or -1.
func pieceOf(l api.Layout, stripe, node int) int {
	for piece := range l.Data + l.More {
		if nodeOf(l, stripe, piece) == node {
			return piece
		}
	}
	return -1
}

// on: what a node has of a stripe.
func on(v api.Volume, node, stripe int) *api.Piece { return &v.Nodes[node].Pieces[stripe] }

// piece of a stripe, on whichever node it is.
func piece(v api.Volume, stripe, piece int) *api.Piece {
	return on(v, nodeOf(v.Layout, stripe, piece), stripe)
}

// same: are two volumes alike in all that they have?
func same(a, b api.Volume) bool {
	return a.Layout == b.Layout && a.Size == b.Size && slices.Equal(a.Versions, b.Versions) && slices.EqualFunc(a.Nodes, b.Nodes, func(x, y api.Shelf) bool {
		return x.Up == y.Up && slices.Equal(x.Pieces, y.Pieces)
	})
}

// twin of a volume, that shares nothing with it.
func twin(v api.Volume) api.Volume {
	v.Versions, v.Nodes = slices.Clone(v.Versions), slices.Clone(v.Nodes)
	for i := range v.Nodes {
		v.Nodes[i].Pieces = slices.Clone(v.Nodes[i].Pieces)
	}
	return v
}

// full: a volume of which each block was written.
func full(t *testing.T, d *draw, l api.Layout, size, stripes int) api.Volume {
	t.Helper()
	v, e := volume.New(l, size, stripes)
	for block := range stripes * l.Data {
		v = write(t, v, block, d.text(size))
	}
	if e != api.OK {
		t.Fatalf("New(%v, %d, %d): %d", l, size, stripes, e)
	}
	return v
}

func write(t *testing.T, v api.Volume, block int, text string) api.Volume {
	t.Helper()
	next, e := volume.Write(v, block, text)
	if e != api.OK {
		t.Fatalf("Write(%v, %d, %q): %d", v, block, text, e)
	}
	return next
}

func set(t *testing.T, v api.Volume, node int, up bool) api.Volume {
	t.Helper()
	next, e := volume.Set(v, node, up)
	if e != api.OK {
		t.Fatalf("Set(%v, %d, %t): %d", v, node, up, e)
	}
	return next
}

func wipe(t *testing.T, v api.Volume, node int) api.Volume {
	t.Helper()
	next, e := volume.Wipe(v, node)
	if e != api.OK {
		t.Fatalf("Wipe(%v, %d): %d", v, node, e)
	}
	return next
}

// written: the example's volume of three stripes, of which blocks 2 and 3, of stripe 1, are written.
func written(t *testing.T) api.Volume {
	t.Helper()
	v, _ := volume.New(example(), 2, 3)
	return write(t, write(t, v, 3, "ab"), 2, "cd")
}

// lose a node's piece of a stripe.
func lose(v api.Volume, node, stripe int) { on(v, node, stripe).Version = 0 }

// isFresh: is a piece of a stripe fresh?
func isFresh(v api.Volume, stripe, p int) bool {
	return v.Nodes[nodeOf(v.Layout, stripe, p)].Up && piece(v, stripe, p).Version == v.Versions[stripe]
}

// freshOf: the fresh pieces of a stripe, by number.
func freshOf(v api.Volume, stripe int) []int {
	var l []int
	for p := range v.Layout.Data + v.Layout.More {
		if isFresh(v, stripe, p) {
			l = append(l, p)
		}
	}
	return l
}

// all pieces of a stripe, told block by block by Read, and by Encode; none, if it can't be read.
func all(t *testing.T, v api.Volume, stripe int) []string {
	t.Helper()
	var data []string
	for p := range v.Layout.Data {
		text, e := volume.Read(v, stripe*v.Layout.Data+p)
		if e != api.OK {
			return nil
		}
		data = append(data, text)
	}
	more, e := code.Encode(data, v.Layout.More)
	if e != api.OK {
		t.Fatalf("Encode(%q, %d): %d", data, v.Layout.More, e)
	}
	return append(data, more...)
}

// spoiled: is the stripe told, but not all its fresh pieces are those that it tells?
func spoiled(t *testing.T, v api.Volume, stripe int) bool {
	t.Helper()
	told := all(t, v, stripe)
	for _, p := range freshOf(v, stripe) {
		if told != nil && piece(v, stripe, p).Data != told[p] {
			return true
		}
	}
	return false
}

// mends: what Mend must answer; what it is handed stays.
func mends(t *testing.T, v api.Volume, node int, want api.Volume, many int, e api.Errno) {
	t.Helper()
	was := twin(v)
	if next, k, f := Mend(v, node); !same(next, want) || k != many || f != e {
		t.Fatalf("Mend(%v, %d) =\n%v, %d, %d, want\n%v, %d, %d", v, node, next, k, f, want, many, e)
	}
	if !same(v, was) {
		t.Fatalf("there was %v, there is %v", was, v)
	}
}

// scrubs: what Scrub must answer; what it is handed stays.
func scrubs(t *testing.T, v api.Volume, want []int, e api.Errno) {
	t.Helper()
	was := twin(v)
	if l, f := Scrub(v); !slices.Equal(l, want) || f != e {
		t.Fatalf("Scrub(%v) = %v, %d, want %v, %d", v, l, f, want, e)
	}
	if !same(v, was) {
		t.Fatalf("there was %v, there is %v", was, v)
	}
}

// cures: what Cure must answer; what it is handed stays.
func cures(t *testing.T, v api.Volume, stripe int, want api.Volume, piece int, e api.Errno) {
	t.Helper()
	was := twin(v)
	if next, k, f := Cure(v, stripe); !same(next, want) || k != piece || f != e {
		t.Fatalf("Cure(%v, %d) =\n%v, %d, %d, want\n%v, %d, %d", v, stripe, next, k, f, want, piece, e)
	}
	if !same(v, was) {
		t.Fatalf("there was %v, there is %v", was, v)
	}
}

// S1: what was reckoned by hand: a node that was wiped has all its pieces again, one that was away just the one that was written since.
func TestMendByHand(t *testing.T) {
	v := written(t)
	for node, many := range []int{2, 2, 2, 3, 3} {
		mends(t, wipe(t, v, node), node, v, many, api.OK)
		mends(t, v, node, v, 0, api.OK)
	}
	if p := piece(v, 1, 2); *p != (api.Piece{Version: 3, Data: "\x6b\xe7"}) {
		t.Fatalf("%v", p)
	}
	v = set(t, v, 3, false)
	v = write(t, v, 3, "ef")
	v = set(t, v, 3, true)
	want := twin(v)
	*on(want, 3, 1) = api.Piece{Version: 4, Data: "ef"}
	mends(t, v, 3, want, 1, api.OK)
	v = wipe(t, wipe(t, v, 4), 3)
	want = twin(v)
	*on(want, 4, 0), *on(want, 4, 1), *on(want, 4, 2) = api.Piece{Version: 1, Data: "\x00\x00"}, api.Piece{Version: 4, Data: "\x9c\x10"}, api.Piece{Version: 1, Data: "\x00\x00"}
	mends(t, v, 4, want, 3, api.OK)
	v = twin(want)
	*on(want, 3, 0), *on(want, 3, 1), *on(want, 3, 2) = api.Piece{Version: 1, Data: "\x00\x00"}, api.Piece{Version: 4, Data: "ef"}, api.Piece{Version: 1, Data: "\x00\x00"}
	mends(t, v, 3, want, 3, api.OK)
}

// S1: a piece of an older version counts, though its bytes are those that it gets; one that is fresh stays, whatever it has.
func TestMendGoesByVersions(t *testing.T) {
	v := written(t)
	w := twin(v)
	on(w, 3, 1).Version--
	mends(t, w, 3, v, 1, api.OK)
	on(w, 3, 1).Version = 0
	mends(t, w, 3, v, 1, api.OK)
	on(v, 0, 1).Data = "?!"
	mends(t, v, 0, v, 0, api.OK)
}

// S1: stripes of which too few are fresh stay as they are, and are not counted; just as many as there are of data are enough.
func TestMendWhereFewAreFresh(t *testing.T) {
	v := wipe(t, written(t), 4)
	lose(v, 3, 1)
	want := twin(v)
	*on(want, 4, 0), *on(want, 4, 1), *on(want, 4, 2) = api.Piece{Version: 1, Data: "\x00\x00"}, api.Piece{Version: 3, Data: "\x6b\xe7"}, api.Piece{Version: 1, Data: "\x00\x00"}
	mends(t, v, 4, want, 3, api.OK)
	lose(v, 0, 1)
	want = twin(v)
	*on(want, 4, 0), *on(want, 4, 2) = api.Piece{Version: 1, Data: "\x00\x00"}, api.Piece{Version: 1, Data: "\x00\x00"}
	mends(t, v, 4, want, 2, api.OK)
	v.Nodes[1].Up, v.Nodes[2].Up = false, false
	want = twin(v)
	*on(want, 4, 2) = api.Piece{Version: 1, Data: "\x00\x00"} // stripe 2 has nodes 3 and 0, stripe 0 node 3 alone
	mends(t, v, 4, want, 1, api.OK)
	lose(v, 3, 2)
	mends(t, v, 4, v, 0, api.OK)
	mends(t, v, 3, v, 0, api.OK)
}

// S1: at the last version, too.
func TestMendAtMaxTime(t *testing.T) {
	v := written(t)
	for p := range 4 {
		piece(v, 1, p).Version = api.MaxTime
	}
	v.Versions[1] = api.MaxTime
	for p := range 4 {
		w := twin(v)
		piece(w, 1, p).Version--
		mends(t, w, nodeOf(v.Layout, 1, p), v, 1, api.OK)
	}
}

// shaken: a volume of whatever pieces, of which many do not fit each other, and of nodes that are up or not.
func shaken(t *testing.T, d *draw, l api.Layout, size, stripes int) api.Volume {
	t.Helper()
	v := full(t, d, l, size, stripes)
	spoil := d.below(8)
	for node := range v.Nodes {
		v.Nodes[node].Up = d.below(7) > 0
		for stripe, version := range v.Versions {
			if pieceOf(l, stripe, node) < 0 {
				continue
			}
			if d.below(8) == 0 {
				on(v, node, stripe).Version = d.below(version)
			}
			if d.below(8) < spoil {
				on(v, node, stripe).Data = d.text(size)
			}
		}
	}
	return v
}

// S1: of pieces that may not fit each other just those that are not fresh are mended, as Read and Encode tell them.
func TestMendOfAny(t *testing.T) {
	d := draw(1)
	mended, few := 0, 0
	for range 500 {
		l := some()[d.below(len(some()))]
		v := shaken(t, &d, l, 2, 4)
		for node := range v.Nodes {
			if !v.Nodes[node].Up {
				mends(t, v, node, api.Volume{}, 0, api.ErrState)
				continue
			}
			want, many := twin(v), 0
			for stripe, version := range v.Versions {
				p := pieceOf(l, stripe, node)
				if p < 0 || isFresh(v, stripe, p) {
					continue
				}
				if told := all(t, v, stripe); told != nil {
					*on(want, node, stripe) = api.Piece{Version: version, Data: told[p]}
					many++
				} else {
					few++
				}
			}
			mends(t, v, node, want, many, api.OK)
			mended += many
		}
	}
	if mended < 500 || few < 100 {
		t.Errorf("only %d were mended, and %d times there were too few", mended, few)
	}
}

// S1, P1: ErrRange of a node that is none, ErrState of one that is down, even if there is nothing to mend.
func TestMendOfWrongInputs(t *testing.T) {
	v := written(t)
	for _, node := range []int{math.MinInt, -1, 5, 6, 11, 12, 64, math.MaxInt} {
		mends(t, v, node, api.Volume{}, 0, api.ErrRange)
	}
	for node := range 5 {
		mends(t, set(t, v, node, false), node, api.Volume{}, 0, api.ErrState)
		mends(t, set(t, wipe(t, v, node), node, false), node, api.Volume{}, 0, api.ErrState)
	}
}

// S2: each piece that is changed is seen, of each stripe, as long as more are fresh than there are pieces of data.
func TestScrub(t *testing.T) {
	d := draw(2)
	for _, l := range some() {
		v := full(t, &d, l, 2, 4)
		scrubs(t, v, nil, api.OK)
		for stripe := range v.Versions {
			for p := range l.Data + l.More {
				w := twin(v)
				piece(w, stripe, p).Data = d.other(piece(w, stripe, p).Data)
				scrubs(t, w, []int{stripe}, api.OK)
				for other := range l.Data + l.More {
					if left := len(freshOf(w, stripe)); other != p && left > l.Data {
						scrubs(t, w, []int{stripe}, api.OK)
						piece(w, stripe, other).Version--
					}
				}
				scrubs(t, w, nil, api.OK) // as many as there are of data always fit
				piece(w, stripe, p).Version--
				scrubs(t, w, nil, api.OK)
			}
		}
	}
}

// S2: stripes come by number; pieces that are not fresh are not looked at.
func TestScrubByHand(t *testing.T) {
	v := written(t)
	on(v, 3, 2).Data = "?\x00"
	on(v, 3, 0).Data = "\x00?"
	scrubs(t, v, []int{0, 2}, api.OK)
	on(v, 0, 1).Data = "ab"
	scrubs(t, v, []int{0, 1, 2}, api.OK)
	scrubs(t, set(t, v, 3, false), []int{1}, api.OK)
	lose(v, 0, 1)
	scrubs(t, v, []int{0, 2}, api.OK)
	on(v, 3, 0).Version = 0
	scrubs(t, v, []int{2}, api.OK)
	on(v, 3, 2).Data = "\x00\x00"
	scrubs(t, v, nil, api.OK)
	for node := range v.Nodes {
		v.Nodes[node].Up = false
	}
	scrubs(t, v, nil, api.OK)
}

// S2: of any volume those stripes of which not each fresh piece is what Read and Encode tell.
func TestScrubOfAny(t *testing.T) {
	d := draw(3)
	told, clean := 0, 0
	for range 1000 {
		v := shaken(t, &d, some()[d.below(len(some()))], 1+d.below(2), 1+d.below(5))
		var want []int
		for stripe := range v.Versions {
			if spoiled(t, v, stripe) {
				want = append(want, stripe)
			}
		}
		scrubs(t, v, want, api.OK)
		told, clean = told+len(want), clean+len(v.Versions)-len(want)
	}
	if told < 500 || clean < 500 {
		t.Errorf("only %d were told, %d were not", told, clean)
	}
}

// S3, S4: one piece that was changed is found, whichever, and is what it was, as long as two more are fresh than there are pieces of data, and nothing else changes.
func TestCure(t *testing.T) {
	d := draw(4)
	for _, l := range some() {
		v := full(t, &d, l, 2, 3)
		for stripe := range v.Versions {
			for p := range l.Data + l.More {
				w := twin(v)
				piece(w, stripe, p).Data = d.other(piece(w, stripe, p).Data)
				for other := range l.Data + l.More {
					if len(freshOf(w, stripe)) < l.Data+2 {
						break
					}
					want := twin(w)
					piece(want, stripe, p).Data = piece(v, stripe, p).Data
					cures(t, w, stripe, want, p, api.OK)
					scrubs(t, want, nil, api.OK)
					if other != p {
						piece(w, stripe, other).Version--
					}
				}
				for len(freshOf(w, stripe)) >= l.Data+2 {
					piece(w, stripe, l.Data+l.More-1).Version--
				}
				cures(t, w, stripe, api.Volume{}, 0, api.ErrFew)
			}
		}
	}
}

// S3: what was reckoned by hand; of each stripe for itself.
func TestCureByHand(t *testing.T) {
	v := written(t)
	w := twin(v)
	on(w, 4, 1).Data = "\x6b\xe6"
	on(w, 1, 2).Data = "x\x00"
	want := twin(w)
	on(want, 4, 1).Data = "\x6b\xe7"
	cures(t, w, 1, want, 2, api.OK)
	cures(t, want, 1, api.Volume{}, 0, api.ErrNone)
	want = twin(w)
	on(want, 1, 2).Data = "\x00\x00"
	cures(t, w, 2, want, 3, api.OK)
	cures(t, w, 0, api.Volume{}, 0, api.ErrNone)
	w = twin(v)
	on(w, 2, 1).Data = "??"
	cures(t, w, 1, v, 0, api.OK)
}

// S3: what is wrong elsewhere, or is not fresh, is not looked at, and stays.
func TestCureLooksAtFreshPieces(t *testing.T) {
	d := draw(5)
	l := api.Layout{Nodes: 6, Data: 2, More: 3, Turn: 1}
	v := full(t, &d, l, 2, 3)
	piece(v, 0, 1).Data = "zz"
	piece(v, 2, 4).Data = "zz"
	*piece(v, 1, 3) = api.Piece{Version: 1, Data: "zz"}
	cures(t, v, 1, api.Volume{}, 0, api.ErrNone)
	w := twin(v)
	piece(w, 1, 4).Data = d.other(piece(w, 1, 4).Data)
	cures(t, w, 1, v, 4, api.OK)
	down := nodeOf(l, 1, 3)
	piece(v, 1, 3).Version = v.Versions[1]
	v.Nodes[down].Up = false
	w = twin(v)
	piece(w, 1, 0).Data = d.other(piece(w, 1, 0).Data)
	cures(t, w, 1, v, 0, api.OK)
}

// S3: of two pieces that were changed none is wrong alone, if three more are fresh than there are pieces of data, or more.
func TestCureOfTwo(t *testing.T) {
	d := draw(6)
	for _, l := range some() {
		if l.More < 3 {
			continue
		}
		v := full(t, &d, l, 1, 2)
		for a := range l.Data + l.More {
			for b := range a {
				w := twin(v)
				piece(w, 1, a).Data = d.other(piece(w, 1, a).Data)
				piece(w, 1, b).Data = d.other(piece(w, 1, b).Data)
				scrubs(t, w, []int{1}, api.OK)
				cures(t, w, 1, api.Volume{}, 0, api.ErrState)
			}
		}
	}
}

// cured: what Cure must answer of a stripe: each fresh piece is taken away, and the others asked.
func cured(t *testing.T, v api.Volume, stripe int) (api.Volume, int, api.Errno) {
	t.Helper()
	l := freshOf(v, stripe)
	switch {
	case len(l) < v.Layout.Data+2:
		return api.Volume{}, 0, api.ErrFew
	case !spoiled(t, v, stripe):
		return api.Volume{}, 0, api.ErrNone
	}
	for _, p := range l {
		less := twin(v)
		piece(less, stripe, p).Version = 0
		if !spoiled(t, less, stripe) {
			next := twin(v)
			piece(next, stripe, p).Data = all(t, less, stripe)[p]
			return next, p, api.OK
		}
	}
	return api.Volume{}, 0, api.ErrState
}

// S3: of any volume, of one byte a piece, so that pieces often fit by chance, what each fresh piece taken away tells.
func TestCureOfAny(t *testing.T) {
	d := draw(7)
	var often [9]int
	for range 1000 {
		l := some()[d.below(len(some()))]
		v := full(t, &d, l, 1, 2)
		for range d.below(5) {
			p := piece(v, d.below(2), d.below(l.Data+l.More))
			switch d.below(4) {
			case 0:
				p.Version = 0
			default:
				p.Data = d.text(1)
			}
		}
		if d.below(3) == 0 {
			v.Nodes[d.below(l.Nodes)].Up = false
		}
		for stripe := range v.Versions {
			next, p, e := cured(t, v, stripe)
			cures(t, v, stripe, next, p, e)
			often[e]++
		}
	}
	for _, e := range []api.Errno{api.OK, api.ErrFew, api.ErrNone, api.ErrState} {
		if often[e] < 100 {
			t.Errorf("error %d only %d times", e, often[e])
		}
	}
}

// S3: two that were changed may look like another one that was; then that one is taken.
func TestCureByDefinition(t *testing.T) {
	d := draw(8)
	v := full(t, &d, example(), 1, 1)
	other := write(t, v, 0, d.other(piece(v, 0, 0).Data))
	other.Versions[0] = v.Versions[0]
	for p := range 4 {
		piece(other, 0, p).Version = v.Versions[0]
	}
	w := twin(v) // two of the three pieces in which the other one differs
	*piece(w, 0, 0), *piece(w, 0, 3) = *piece(other, 0, 0), *piece(other, 0, 3)
	cures(t, w, 0, other, 2, api.OK)
}

// S3, P1: ErrRange, ErrFew, ErrNone, ErrState, in this order, and nothing else.
func TestCureOfWrongInputs(t *testing.T) {
	v := written(t)
	bad := twin(v)
	on(bad, 3, 1).Data = "??"
	for _, stripe := range []int{math.MinInt, -1, 3, 4, 63, 64, math.MaxInt} {
		cures(t, v, stripe, api.Volume{}, 0, api.ErrRange)
		cures(t, bad, stripe, api.Volume{}, 0, api.ErrRange)
	}
	for node := range 5 {
		if node == 1 { // it has no piece of stripe 1
			cures(t, set(t, v, node, false), 1, api.Volume{}, 0, api.ErrNone)
			continue
		}
		cures(t, set(t, v, node, false), 1, api.Volume{}, 0, api.ErrFew)
		cures(t, set(t, bad, node, false), 1, api.Volume{}, 0, api.ErrFew)
		cures(t, wipe(t, bad, node), 1, api.Volume{}, 0, api.ErrFew)
	}
	cures(t, v, 1, api.Volume{}, 0, api.ErrNone)
	on(bad, 4, 1).Data = "??"
	cures(t, bad, 1, api.Volume{}, 0, api.ErrState)
	least, _ := volume.New(api.Layout{Nodes: 2, Data: 1, More: 1}, 1, 1)
	cures(t, least, 0, api.Volume{}, 0, api.ErrFew)
	on(least, 1, 0).Data = "?"
	cures(t, least, 0, api.Volume{}, 0, api.ErrFew)
}

// S1 to S3, P1: what is no volume has its Check, whatever node or stripe is told.
func TestWrongVolumes(t *testing.T) {
	for i, c := range []struct {
		spoil func(*api.Volume)
		want  api.Errno
	}{
		{func(v *api.Volume) { *v = api.Volume{} }, api.ErrRange},
		{func(v *api.Volume) { v.Layout.Nodes = 3 }, api.ErrFew},
		{func(v *api.Volume) { v.Layout.Data = 9 }, api.ErrRange},
		{func(v *api.Volume) { v.Layout.Turn = 5 }, api.ErrRange},
		{func(v *api.Volume) { v.Size = 0 }, api.ErrRange},
		{func(v *api.Volume) { v.Size = 65 }, api.ErrRange},
		{func(v *api.Volume) { v.Size = 3 }, api.ErrForm},
		{func(v *api.Volume) { v.Versions = nil }, api.ErrRange},
		{func(v *api.Volume) { v.Versions[2] = 0 }, api.ErrRange},
		{func(v *api.Volume) { v.Versions = v.Versions[:2] }, api.ErrForm},
		{func(v *api.Volume) { v.Nodes = nil }, api.ErrForm},
		{func(v *api.Volume) { v.Nodes = v.Nodes[:4] }, api.ErrForm},
		{func(v *api.Volume) { v.Nodes[4].Pieces = nil }, api.ErrForm},
		{func(v *api.Volume) { on(*v, 4, 2).Data = "x" }, api.ErrForm},
		{func(v *api.Volume) { on(*v, 0, 0).Version = 1 }, api.ErrForm},
		{func(v *api.Volume) { on(*v, 4, 2).Version = 2 }, api.ErrRange},
		{func(v *api.Volume) { on(*v, 4, 2).Version = -1 }, api.ErrRange},
	} {
		v := written(t)
		c.spoil(&v)
		if e := volume.Check(v); e != c.want {
			t.Errorf("%d: Check(%v) = %d, want %d", i, v, e, c.want)
		}
		scrubs(t, v, nil, c.want)
		for _, n := range []int{-1, 0, 1, 2, 4, 99} {
			mends(t, v, n, api.Volume{}, 0, c.want)
			cures(t, v, n, api.Volume{}, 0, c.want)
			for node := range v.Nodes {
				down := twin(v)
				down.Nodes[node].Up = false
				mends(t, down, n, api.Volume{}, 0, c.want)
				cures(t, down, n, api.Volume{}, 0, c.want)
			}
		}
	}
}

// S4: of whatever layout: a node that was away and wiped is mended, and a piece that was changed is found behind that, and all is what was written.
func TestAllIsWhatWasWritten(t *testing.T) {
	d := draw(9)
	cured := 0
	for range 300 {
		l := some()[d.below(len(some()))]
		v := full(t, &d, l, 2, 3)
		away := d.below(l.Nodes)
		w := set(t, v, away, false)
		for block := range 3 * l.Data {
			if d.below(2) == 0 {
				text := d.text(2)
				v, w = write(t, v, block, text), write(t, w, block, text)
			}
		}
		w = set(t, w, away, true)
		if d.below(2) == 0 {
			w = wipe(t, w, away)
		}
		w, _, e := Mend(w, away)
		if e != api.OK || !same(w, v) {
			t.Fatalf("%d: %v, want %v", e, w, v)
		}
		stripe, p := d.below(3), d.below(l.Data+l.More)
		piece(w, stripe, p).Data = d.other(piece(w, stripe, p).Data)
		scrubs(t, w, []int{stripe}, api.OK)
		if l.More >= 2 {
			cures(t, w, stripe, v, p, api.OK)
			cured++
		}
	}
	if cured < 100 {
		t.Errorf("only %d were cured", cured)
	}
}

// hurt: the written volume with node 4 wiped, and a piece of stripe 2 that was changed.
func hurt(t *testing.T) api.Volume {
	t.Helper()
	v := wipe(t, written(t), 4)
	*on(v, 4, 2) = api.Piece{Version: 1, Data: "\x00\x00"}
	on(v, 1, 2).Data = "??"
	return v
}

// room behind each list of a volume, in which something stands; and whether all of that stays.
func roomy(whole api.Volume) (api.Volume, func() bool) {
	whole = twin(whole)
	nodes, stripes := len(whole.Nodes), len(whole.Versions)
	whole.Versions = append(whole.Versions, 77, 88)
	whole.Nodes = append(whole.Nodes, api.Shelf{Up: true}, api.Shelf{Pieces: []api.Piece{{Version: 7}}})
	for i := range nodes {
		whole.Nodes[i].Pieces = append(whole.Nodes[i].Pieces, api.Piece{Version: 77, Data: "room"}, api.Piece{Version: 88})
	}
	was, v := twin(whole), whole
	v.Versions, v.Nodes = whole.Versions[:stripes], slices.Clone(whole.Nodes)[:nodes]
	room := v.Nodes[:nodes+2]
	for i := range nodes {
		room[i].Pieces = whole.Nodes[i].Pieces[:stripes]
	}
	return v, func() bool {
		for i, shelf := range room[:nodes] {
			if shelf.Up != was.Nodes[i].Up || len(shelf.Pieces) != stripes {
				return false
			}
		}
		return same(whole, was) && room[nodes].Up && !room[nodes+1].Up && len(room[nodes+1].Pieces) == 1
	}
}

// scribble over all that a volume has, and the room behind it.
func scribble(v api.Volume) {
	for _, shelf := range v.Nodes {
		l := shelf.Pieces[:cap(shelf.Pieces)]
		for i := range l {
			l[i] = api.Piece{Version: -9, Data: "scribble"}
		}
	}
	clear(v.Nodes[:cap(v.Nodes)])
	clear(v.Versions[:cap(v.Versions)])
}

// changes: the calls that answer a volume.
func changes() []func(api.Volume) api.Volume {
	return []func(api.Volume) api.Volume{
		func(v api.Volume) api.Volume { v, _, _ = Mend(v, 4); return v },
		func(v api.Volume) api.Volume { v, _, _ = Mend(v, 0); return v },
		func(v api.Volume) api.Volume { v, _, _ = Cure(v, 2); return v },
	}
}

// P2: what is handed in is only read, the room behind it too; an answer is new memory, and does not change with what was handed in, nor this with it.
func TestInputsAreOnlyRead(t *testing.T) {
	for i, call := range changes() {
		v, stays := roomy(hurt(t))
		next := call(v)
		if len(next.Nodes) != 5 || !stays() {
			t.Fatalf("%d changed what it was handed: %v", i, v)
		}
		was := twin(next)
		scribble(v)
		if !same(next, was) {
			t.Errorf("%d: what it answered changed: %v", i, next)
		}
		v, stays = roomy(hurt(t))
		scribble(call(v))
		if !stays() {
			t.Errorf("%d: what it was handed changed with the answer: %v", i, v)
		}
	}
	v, stays := roomy(hurt(t))
	l, e := Scrub(v)
	if !stays() {
		t.Errorf("Scrub changed what it was handed: %v", v)
	}
	scribble(v)
	if !slices.Equal(l, []int{2}) || e != api.OK {
		t.Errorf("%v, %d", l, e)
	}
	v, stays = roomy(hurt(t))
	l, _ = Scrub(v)
	clear(l[:cap(l)])
	if !stays() {
		t.Errorf("what Scrub was handed changed with the answer: %v", v)
	}
}

// P2: no two lists of an answer share memory.
func TestListsAreApart(t *testing.T) {
	for i, call := range changes() {
		v := call(hurt(t))
		was := twin(v)
		for node, shelf := range v.Nodes {
			l := shelf.Pieces[:cap(shelf.Pieces)]
			for i := range l {
				l[i] = api.Piece{Version: -9, Data: "scribble"}
			}
			for other := node + 1; other < len(v.Nodes); other++ {
				if !slices.Equal(v.Nodes[other].Pieces, was.Nodes[other].Pieces) {
					t.Fatalf("%d: nodes %d and %d share memory", i, node, other)
				}
			}
		}
	}
}

// P3: calls between, and what is done to their answers, change no answer.
func TestAnswersStay(t *testing.T) {
	v := hurt(t)
	mended, cured := changes()[0](v), changes()[2](v)
	wantMended, wantCured := twin(mended), twin(cured)
	scribble(mended)
	scribble(cured)
	l, _ := Scrub(v)
	clear(l)
	for range 3 {
		mends(t, v, 4, wantMended, 2, api.OK)
		cures(t, v, 2, wantCured, 3, api.OK)
		scrubs(t, v, []int{2}, api.OK)
		Cure(api.Volume{}, 0)
	}
}

// P1: no call panics, whatever it is handed; with an error the rest is zero, and without one there is a volume.
func TestNoPanic(t *testing.T) {
	d := draw(10)
	odd := func() int {
		if d.below(8) > 0 {
			return d.below(6)
		}
		return []int{math.MinInt, -1, 12, 64, 65, 1000000, 1000001, math.MaxInt}[d.below(8)]
	}
	mended, cured := 0, 0
	for range 5000 {
		v := hurt(t)
		switch d.below(6) {
		case 0:
			v.Layout = api.Layout{Nodes: odd(), Data: odd(), More: odd(), Turn: odd()}
		case 1:
			v.Size = odd()
		case 2:
			v.Versions = append(v.Versions[:d.below(4)], odd())
		case 3:
			v.Nodes = append(v.Nodes[:d.below(6)], api.Shelf{Up: true, Pieces: make([]api.Piece, d.below(5))})
		case 4:
			*on(v, d.below(5), d.below(3)) = api.Piece{Version: odd(), Data: strings.Repeat("x", d.below(4))}
		}
		n := odd()
		x, many, e := Mend(v, n)
		y, p, f := Cure(v, n)
		l, g := Scrub(v)
		if e != api.OK && (!same(x, api.Volume{}) || many != 0) || f != api.OK && (!same(y, api.Volume{}) || p != 0) || g != api.OK && len(l) > 0 {
			t.Fatalf("%v, %d: %v %d %d, %v %d %d, %v %d", v, n, x, many, e, y, p, f, l, g)
		}
		for _, made := range []api.Volume{x, y} {
			if len(made.Nodes) > 0 && volume.Check(made) != api.OK {
				t.Fatalf("%v, %d: %v", v, n, made)
			}
		}
		if e == api.OK {
			mended++
		}
		if f == api.OK {
			cured++
			if set, _ := volume.Fresh(y, n); bits.OnesCount64(set) < y.Layout.Data+2 {
				t.Fatalf("%v, %d: %v", v, n, y)
			}
		}
	}
	if mended < 500 || cured < 100 {
		t.Errorf("only %d were mended, %d cured", mended, cured)
	}
}
