package snap

import (
	"math"
	"slices"
	"strconv"
	"strings"
	"testing"

	"supercargo/api"
)

// draw gives the same numbers each time.
type draw uint64

func (d *draw) below(n int) int {
	*d = *d*6364136223846793005 + 1442695040888963407
	return int(uint64(*d) >> 33 % uint64(n))
}

// store of cells and maps.
func store(cells []api.Cell, maps ...[]int) api.Store {
	return api.Store{Cells: cells, Maps: maps}
}

// same: are two stores alike in all that they have?
func same(a, b api.Store) bool {
	return slices.Equal(a.Cells, b.Cells) && slices.EqualFunc(a.Maps, b.Maps, slices.Equal)
}

// twin of a store, that shares nothing with it.
func twin(s api.Store) api.Store {
	s.Cells, s.Maps = slices.Clone(s.Cells), slices.Clone(s.Maps)
	for i, blocks := range s.Maps {
		s.Maps[i] = slices.Clone(blocks)
	}
	return s
}

// made: New without an error.
func made(t *testing.T, blocks int) api.Store {
	t.Helper()
	s, e := New(blocks)
	if e != api.OK {
		t.Fatalf("New(%d): %d", blocks, e)
	}
	return s
}

// becomes: what a call must answer of a store; what it is handed stays.
func becomes(t *testing.T, s api.Store, call func(api.Store) (api.Store, api.Errno), want api.Store, e api.Errno) api.Store {
	t.Helper()
	was := twin(s)
	next, f := call(s)
	if !same(next, want) || f != e {
		t.Fatalf("of %v there is\n%v, %d, want\n%v, %d", s, next, f, want, e)
	}
	if !same(s, was) {
		t.Fatalf("there was %v, there is %v", was, s)
	}
	if f := Check(next); e == api.OK && f != api.OK {
		t.Fatalf("Check(%v) = %d", next, f)
	}
	return next
}

// good: what a call answers has no error and is a store, and what it was handed stays.
func good(t *testing.T, s api.Store, call func(api.Store) (api.Store, api.Errno)) api.Store {
	t.Helper()
	want, _ := call(s)
	return becomes(t, s, call, want, api.OK)
}

// calls that change a store.
func toWrite(block int, data string) func(api.Store) (api.Store, api.Errno) {
	return func(s api.Store) (api.Store, api.Errno) { return Write(s, block, data) }
}

func toDrop(m int) func(api.Store) (api.Store, api.Errno) {
	return func(s api.Store) (api.Store, api.Errno) { return Drop(s, m) }
}

func toBack(m int) func(api.Store) (api.Store, api.Errno) {
	return func(s api.Store) (api.Store, api.Errno) { return Back(s, m) }
}

// reads: what Read must answer.
func reads(t *testing.T, s api.Store, m, block int, want string, e api.Errno) {
	t.Helper()
	if got, f := Read(s, m, block); got != want || f != e {
		t.Fatalf("Read(%v, %d, %d) = %q, %d, want %q, %d", s, m, block, got, f, want, e)
	}
}

// none of a map, a block or a number of blocks.
func none() []int { return []int{math.MinInt, -1, 33, 64, math.MaxInt} }

// T1: the live map alone, of one cell without bytes.
func TestNew(t *testing.T) {
	for blocks := 1; blocks <= 32; blocks++ {
		s := made(t, blocks)
		if !same(s, store([]api.Cell{{Refs: blocks}}, make([]int, blocks))) || Check(s) != api.OK {
			t.Errorf("New(%d) = %v", blocks, s)
		}
	}
	for _, blocks := range append(none(), 0) {
		if s, e := New(blocks); e != api.ErrRange || !same(s, api.Store{}) {
			t.Errorf("New(%d) = %v, %d", blocks, s, e)
		}
	}
}

// busy: a store of three maps of three blocks, with a cell that all name, and one that nobody names.
func busy() api.Store {
	return store([]api.Cell{{Refs: 4}, {Data: "a", Refs: 1}, {}, {Data: "b", Refs: 2}, {Data: "c", Refs: 1}, {Refs: 1}}, []int{4, 3, 0}, []int{1, 0, 0}, []int{3, 0, 5})
}

// T1: what is good, at the limits.
func TestCheckOfGoodStores(t *testing.T) {
	most := make([]api.Cell, 200)
	most[0] = api.Cell{Data: strings.Repeat("\xff", 64), Refs: 12 * 32}
	for i, s := range []api.Store{
		busy(),
		store([]api.Cell{{Refs: 1}}, []int{0}),
		store([]api.Cell{{}, {Data: "x", Refs: 1}}, []int{1}),
		store([]api.Cell{{Refs: 1}, {}}, []int{0}),
		store([]api.Cell{{Data: "same", Refs: 1}, {Data: "same", Refs: 1}}, []int{1, 0}),
		store(most, slices.Repeat([][]int{make([]int, 32)}, 12)...),
	} {
		if e := Check(s); e != api.OK {
			t.Errorf("%d: Check(%v) = %d", i, s, e)
		}
	}
}

// fault: what spoils a store, and what Check answers then.
type fault struct {
	spoil func(*api.Store)
	want  api.Errno
}

// faults of the busy store, in the order in which T1 names them; each leaves room for those behind it.
func faults() []fault {
	return []fault{
		{func(s *api.Store) { s.Cells = append(s.Cells, make([]api.Cell, 195)...) }, api.ErrMany},
		{func(s *api.Store) { s.Maps = append(s.Maps, slices.Repeat([][]int{{0, 0, 0}}, 10)...) }, api.ErrMany},
		{func(s *api.Store) { s.Maps = nil }, api.ErrFew},
		{func(s *api.Store) { s.Maps[0] = nil }, api.ErrFew},
		{func(s *api.Store) { s.Maps[1] = append(s.Maps[1], 0) }, api.ErrForm},
		{func(s *api.Store) { s.Maps[2] = nil }, api.ErrForm},
		{func(s *api.Store) { s.Maps[0] = append(s.Maps[0], 0) }, api.ErrForm},
		{func(s *api.Store) {
			for m, blocks := range s.Maps {
				s.Maps[m] = append(blocks, make([]int, 30)...)
			}
		}, api.ErrMany},
		{func(s *api.Store) { s.Maps[0][2] = -1 }, api.ErrRange},
		{func(s *api.Store) { s.Maps[1][0] = math.MaxInt }, api.ErrRange},
		{func(s *api.Store) { s.Maps[2][1] = math.MinInt }, api.ErrRange},
		{func(s *api.Store) { s.Cells = s.Cells[:5] }, api.ErrRange},
		{func(s *api.Store) { s.Cells[3].Data = strings.Repeat("x", 65) }, api.ErrMany},
		{func(s *api.Store) { s.Cells[2].Data = strings.Repeat("x", 65) }, api.ErrMany},
		{func(s *api.Store) { s.Cells[0].Refs = 3 }, api.ErrState},
		{func(s *api.Store) { s.Cells[1].Refs = 2 }, api.ErrState},
		{func(s *api.Store) { s.Cells[3].Refs = 1 }, api.ErrState},
		{func(s *api.Store) { s.Cells[4].Refs = 0 }, api.ErrState},
		{func(s *api.Store) { s.Cells[5].Refs = -1 }, api.ErrState},
		{func(s *api.Store) { s.Cells[2].Refs = 1 }, api.ErrState},
		{func(s *api.Store) { s.Cells[2].Refs = math.MinInt }, api.ErrState},
		{func(s *api.Store) { s.Cells[2].Data = "x" }, api.ErrState},
		{func(s *api.Store) { s.Maps[0][0] = 3 }, api.ErrState},
	}
}

// wrong: a store of which Check, and all else, must answer that, whatever else is wrong.
func wrong(t *testing.T, s api.Store, want api.Errno) {
	t.Helper()
	if e := Check(s); e != want {
		t.Errorf("Check(%v) = %d, want %d", s, e, want)
	}
	becomes(t, s, Snap, api.Store{}, want)
	for _, n := range []int{-1, 0, 1, 2, 99} {
		becomes(t, s, toWrite(n, "x"), api.Store{}, want)
		becomes(t, s, toWrite(n, strings.Repeat("x", 65)), api.Store{}, want)
		becomes(t, s, toDrop(n), api.Store{}, want)
		becomes(t, s, toBack(n), api.Store{}, want)
		for _, m := range []int{-1, 0, 1, 2, 99} {
			reads(t, s, n, m, "", want)
		}
	}
}

// T1 to T4, P1: each fault tells, to the other calls too, and with nothing beside it.
func TestWrongStores(t *testing.T) {
	wrong(t, api.Store{}, api.ErrFew)
	for _, f := range faults() {
		s := busy()
		f.spoil(&s)
		wrong(t, s, f.want)
	}
}

// T1, P1: of two faults the one that T1 names first.
func TestFaultsInOrder(t *testing.T) {
	for i, c := range []struct {
		s    api.Store
		want api.Errno
	}{
		{store(make([]api.Cell, 201)), api.ErrMany},
		{store(nil, make([][]int, 13)...), api.ErrMany},
		{store(nil, nil, []int{0}), api.ErrFew},
		{store(nil, []int{0}, []int{0, 1}), api.ErrForm},
		{store(nil, make([]int, 33), make([]int, 32)), api.ErrForm},
		{store(nil, make([]int, 32), make([]int, 33)), api.ErrForm},
		{store(nil, make([]int, 33), make([]int, 33)), api.ErrMany},
		{store([]api.Cell{{Data: strings.Repeat("x", 65)}}, []int{1}), api.ErrRange},
		{store([]api.Cell{{Refs: 1}}, []int{1}), api.ErrRange},
		{store([]api.Cell{{Refs: 2}, {Data: strings.Repeat("x", 65)}}, []int{0}), api.ErrMany},
		{store([]api.Cell{{Refs: 1}, {Data: "x"}}, []int{0}), api.ErrState},
	} {
		if e := Check(c.s); e != c.want {
			t.Errorf("%d: Check(%v) = %d, want %d", i, c.s, e, c.want)
		}
	}
}

// T2: what each map's blocks name.
func TestRead(t *testing.T) {
	for m, texts := range [][]string{{"c", "b", ""}, {"a", "", ""}, {"b", "", ""}} {
		for block, text := range texts {
			reads(t, busy(), m, block, text, api.OK)
		}
	}
}

// T2, P1: ErrRange of a map or a block that is none.
func TestReadOfWrongInputs(t *testing.T) {
	for _, n := range append(none(), 3, 4, 12) {
		for _, other := range []int{-1, 0, 2, 3} {
			reads(t, busy(), n, other, "", api.ErrRange)
			reads(t, busy(), other, n, "", api.ErrRange)
		}
	}
}

// T3: a cell that is named by it alone gets the bytes; else the first one that nobody names, and the old one stays what it was.
func TestWriteByHand(t *testing.T) {
	s := becomes(t, busy(), toWrite(0, "new"), store([]api.Cell{{Refs: 4}, {Data: "a", Refs: 1}, {}, {Data: "b", Refs: 2}, {Data: "new", Refs: 1}, {Refs: 1}}, []int{4, 3, 0}, []int{1, 0, 0}, []int{3, 0, 5}), api.OK)
	s = becomes(t, s, toWrite(1, "b"), store([]api.Cell{{Refs: 4}, {Data: "a", Refs: 1}, {Data: "b", Refs: 1}, {Data: "b", Refs: 1}, {Data: "new", Refs: 1}, {Refs: 1}}, []int{4, 2, 0}, []int{1, 0, 0}, []int{3, 0, 5}), api.OK)
	s = becomes(t, s, toWrite(2, ""), store([]api.Cell{{Refs: 3}, {Data: "a", Refs: 1}, {Data: "b", Refs: 1}, {Data: "b", Refs: 1}, {Data: "new", Refs: 1}, {Refs: 1}, {Refs: 1}}, []int{4, 2, 6}, []int{1, 0, 0}, []int{3, 0, 5}), api.OK)
	s = becomes(t, s, toWrite(2, "\x00"), store([]api.Cell{{Refs: 3}, {Data: "a", Refs: 1}, {Data: "b", Refs: 1}, {Data: "b", Refs: 1}, {Data: "new", Refs: 1}, {Refs: 1}, {Data: "\x00", Refs: 1}}, []int{4, 2, 6}, []int{1, 0, 0}, []int{3, 0, 5}), api.OK)
	becomes(t, s, toWrite(1, ""), store([]api.Cell{{Refs: 3}, {Data: "a", Refs: 1}, {Refs: 1}, {Data: "b", Refs: 1}, {Data: "new", Refs: 1}, {Refs: 1}, {Data: "\x00", Refs: 1}}, []int{4, 2, 6}, []int{1, 0, 0}, []int{3, 0, 5}), api.OK)
}

// T3: a cell that another block of the live map names is not its own; of those that nobody names the first one is taken.
func TestWriteSharesWithinTheLiveMap(t *testing.T) {
	s := store([]api.Cell{{}, {}, {Data: "x", Refs: 2}, {}}, []int{2, 2})
	s = becomes(t, s, toWrite(1, "y"), store([]api.Cell{{Data: "y", Refs: 1}, {}, {Data: "x", Refs: 1}, {}}, []int{2, 0}), api.OK)
	becomes(t, s, toWrite(0, "z"), store([]api.Cell{{Data: "y", Refs: 1}, {}, {Data: "z", Refs: 1}, {}}, []int{2, 0}), api.OK)
}

// full: a store of as many cells as may be, all of which are named: block 0 shares its cell, block 1 does not.
func full(t *testing.T) api.Store {
	t.Helper()
	s := made(t, 32)
	for i := range 7 {
		for block := range 32 {
			s = good(t, s, toWrite(block, strconv.Itoa(100*i+block)))
			if len(s.Cells) == 200 && block > 0 {
				return good(t, s, toWrite(block, "own"))
			}
		}
		s = good(t, s, Snap)
	}
	t.Fatalf("only %d cells", len(s.Cells))
	return s
}

// T3, P1: at the limits: a write that needs no cell more is done when there are MaxCells; ErrRange of a block that is none, ErrMany of too many bytes, and of a cell too many.
func TestWriteAtTheLimits(t *testing.T) {
	s := full(t)
	shared := slices.IndexFunc(s.Maps[0], func(cell int) bool { return s.Cells[cell].Refs > 1 })
	own := slices.IndexFunc(s.Maps[0], func(cell int) bool { return s.Cells[cell].Refs == 1 })
	if shared < 0 || own < 0 || len(s.Cells) != 200 {
		t.Fatalf("%v", s)
	}
	becomes(t, s, toWrite(shared, "x"), api.Store{}, api.ErrMany)
	becomes(t, s, toWrite(32, "x"), api.Store{}, api.ErrRange)
	reads(t, good(t, s, toWrite(own, "x")), 0, own, "x", api.OK)
	freed := good(t, s, toDrop(1))
	if len(freed.Cells) != 200 {
		t.Fatalf("%d cells", len(freed.Cells))
	}
	freed = good(t, freed, toWrite(shared, "x"))
	reads(t, freed, 0, shared, "x", api.OK)
	if len(freed.Cells) != 200 || freed.Maps[0][shared] >= 199 {
		t.Fatalf("%v", freed)
	}
	longest := strings.Repeat("y", 64)
	for _, s := range []api.Store{made(t, 1), busy(), s} {
		block := slices.IndexFunc(s.Maps[0], func(cell int) bool { return s.Cells[cell].Refs == 1 })
		reads(t, good(t, s, toWrite(block, longest)), 0, block, longest, api.OK)
		for _, data := range []string{longest + "y", strings.Repeat("y", 1000)} {
			becomes(t, s, toWrite(block, data), api.Store{}, api.ErrMany)
			becomes(t, s, toWrite(-1, data), api.Store{}, api.ErrRange)
			becomes(t, s, toWrite(len(s.Maps[0]), data), api.Store{}, api.ErrRange)
		}
	}
	for _, block := range append(none(), 3, 4) {
		becomes(t, busy(), toWrite(block, "x"), api.Store{}, api.ErrRange)
	}
}

// T4: a snapshot more names what the live map names, behind all others, until there are MaxMaps.
func TestSnap(t *testing.T) {
	s := becomes(t, busy(), Snap, store([]api.Cell{{Refs: 5}, {Data: "a", Refs: 1}, {}, {Data: "b", Refs: 3}, {Data: "c", Refs: 2}, {Refs: 1}}, []int{4, 3, 0}, []int{1, 0, 0}, []int{3, 0, 5}, []int{4, 3, 0}), api.OK)
	for len(s.Maps) < 12 {
		s = good(t, s, Snap)
	}
	becomes(t, s, Snap, api.Store{}, api.ErrMany)
	s = good(t, s, toDrop(1))
	becomes(t, good(t, s, Snap), Snap, api.Store{}, api.ErrMany)
}

// T4: a snapshot goes, those behind it are one place ahead, and cells that nobody names any more have no bytes.
func TestDrop(t *testing.T) {
	becomes(t, busy(), toDrop(1), store([]api.Cell{{Refs: 2}, {}, {}, {Data: "b", Refs: 2}, {Data: "c", Refs: 1}, {Refs: 1}}, []int{4, 3, 0}, []int{3, 0, 5}), api.OK)
	s := becomes(t, busy(), toDrop(2), store([]api.Cell{{Refs: 3}, {Data: "a", Refs: 1}, {}, {Data: "b", Refs: 1}, {Data: "c", Refs: 1}, {}}, []int{4, 3, 0}, []int{1, 0, 0}), api.OK)
	s = becomes(t, s, toDrop(1), store([]api.Cell{{Refs: 1}, {}, {}, {Data: "b", Refs: 1}, {Data: "c", Refs: 1}, {}}, []int{4, 3, 0}), api.OK)
	becomes(t, s, toDrop(1), api.Store{}, api.ErrRange)
}

// T4: the live map names what a snapshot names, which stays; cells that nobody names any more have no bytes.
func TestBack(t *testing.T) {
	becomes(t, busy(), toBack(1), store([]api.Cell{{Refs: 5}, {Data: "a", Refs: 2}, {}, {Data: "b", Refs: 1}, {}, {Refs: 1}}, []int{1, 0, 0}, []int{1, 0, 0}, []int{3, 0, 5}), api.OK)
	s := becomes(t, busy(), toBack(2), store([]api.Cell{{Refs: 4}, {Data: "a", Refs: 1}, {}, {Data: "b", Refs: 2}, {}, {Refs: 2}}, []int{3, 0, 5}, []int{1, 0, 0}, []int{3, 0, 5}), api.OK)
	becomes(t, s, toBack(2), s, api.OK)
	s = good(t, s, toWrite(0, "z"))
	reads(t, s, 2, 0, "b", api.OK)
}

// T4, P1: ErrRange of what is no snapshot, the live map too.
func TestSnapshotsOfWrongInputs(t *testing.T) {
	for _, m := range append(none(), 0, 3, 4, 12) {
		becomes(t, busy(), toDrop(m), api.Store{}, api.ErrRange)
		becomes(t, busy(), toBack(m), api.Store{}, api.ErrRange)
	}
	for _, m := range []int{-1, 0, 1} {
		becomes(t, made(t, 3), toDrop(m), api.Store{}, api.ErrRange)
		becomes(t, made(t, 3), toBack(m), api.Store{}, api.ErrRange)
	}
}

// story of a store: what each map has, as copies that share nothing, and how often something was so.
type story struct {
	t                            *testing.T
	s                            api.Store
	texts                        [][]string
	written, full, dropped, back int
}

// write a block, which only lacks a cell, if all are named.
func (x *story) write(block int, text string) {
	cell := x.s.Maps[0][block]
	lacks := x.s.Cells[cell].Refs > 1 && len(x.s.Cells) == 200 && !slices.ContainsFunc(x.s.Cells, func(c api.Cell) bool { return c.Refs == 0 })
	if lacks {
		becomes(x.t, x.s, toWrite(block, text), api.Store{}, api.ErrMany)
		x.full++
		return
	}
	x.s = good(x.t, x.s, toWrite(block, text))
	x.texts[0][block] = text
	x.written++
}

func (x *story) snap() {
	if len(x.texts) == 12 {
		becomes(x.t, x.s, Snap, api.Store{}, api.ErrMany)
		return
	}
	x.s = good(x.t, x.s, Snap)
	x.texts = append(x.texts, slices.Clone(x.texts[0]))
}

func (x *story) drop(m int) {
	if m == 0 {
		return
	}
	x.s = good(x.t, x.s, toDrop(m))
	x.texts = slices.Delete(x.texts, m, m+1)
	x.dropped++
}

func (x *story) goBack(m int) {
	if m == 0 {
		return
	}
	x.s = good(x.t, x.s, toBack(m))
	x.texts[0] = slices.Clone(x.texts[m])
	x.back++
}

// readAll: each map has what the live map had when it was made.
func (x *story) readAll() {
	if len(x.s.Maps) != len(x.texts) {
		x.t.Fatalf("%d maps, want %d", len(x.s.Maps), len(x.texts))
	}
	for m, texts := range x.texts {
		for block, text := range texts {
			reads(x.t, x.s, m, block, text, api.OK)
		}
	}
}

// T5: sharing is not seen, whatever is written since.
func TestSnapshotsStay(t *testing.T) {
	d := draw(1)
	var written, full, dropped, back int
	for range 20 {
		blocks := []int{1, 2, 5, 32}[d.below(4)]
		x := &story{t: t, s: made(t, blocks), texts: [][]string{make([]string, blocks)}}
		for i := range 900 {
			switch d.below(120) {
			case 0, 1, 2, 3, 4:
				x.snap()
			case 5:
				x.drop(d.below(len(x.texts)))
			case 6:
				x.goBack(d.below(len(x.texts)))
			default:
				x.write(d.below(blocks), strings.Repeat(strconv.Itoa(i), d.below(4)))
			}
			if i%10 == 0 || i > 890 {
				x.readAll()
			}
		}
		written, full, dropped, back = written+x.written, full+x.full, dropped+x.dropped, back+x.back
	}
	if written < 2000 || full < 5 || dropped < 50 || back < 50 {
		t.Errorf("only so many: %d, %d, %d, %d", written, full, dropped, back)
	}
}

// roomy: the busy store, each list with room behind it in which something stands; and whether all of that stays.
func roomy() (api.Store, func() bool) {
	whole := busy()
	whole.Cells = append(whole.Cells, api.Cell{Data: "room", Refs: 7}, api.Cell{Refs: 8})
	whole.Maps = append(whole.Maps, []int{77}, []int{88})
	for m := range 3 {
		whole.Maps[m] = append(whole.Maps[m], 77, 88)
	}
	was, s := twin(whole), whole
	s.Cells, s.Maps = whole.Cells[:6], slices.Clone(whole.Maps)[:3]
	room := s.Maps[:5]
	for m := range 3 {
		room[m] = whole.Maps[m][:3]
	}
	return s, func() bool {
		for _, blocks := range room[:3] {
			if len(blocks) != 3 {
				return false
			}
		}
		return same(whole, was) && slices.Equal(room[3], []int{77}) && slices.Equal(room[4], []int{88})
	}
}

// scribble over all that a store has, and the room behind it.
func scribble(s api.Store) {
	for _, blocks := range s.Maps {
		all := blocks[:cap(blocks)]
		for i := range all {
			all[i] = -9
		}
	}
	clear(s.Maps[:cap(s.Maps)])
	all := s.Cells[:cap(s.Cells)]
	for i := range all {
		all[i] = api.Cell{Data: "scribble", Refs: -9}
	}
}

// changes: calls that change a store, each way.
func changes() []func(api.Store) (api.Store, api.Errno) {
	return []func(api.Store) (api.Store, api.Errno){toWrite(0, "x"), toWrite(1, "x"), toWrite(2, "x"), Snap, toDrop(1), toDrop(2), toBack(1), toBack(2)}
}

// P2: what is handed in is only read, the room behind it too; an answer is new memory, and does not change with what was handed in, nor this with it.
func TestInputsAreOnlyRead(t *testing.T) {
	for i, call := range changes() {
		s, stays := roomy()
		next, e := call(s)
		if e != api.OK || !stays() {
			t.Fatalf("%d changed what it was handed: %v, %d", i, s, e)
		}
		was := twin(next)
		scribble(s)
		if !same(next, was) {
			t.Errorf("%d: what it answered changed: %v", i, next)
		}
		s, stays = roomy()
		next, _ = call(s)
		scribble(next)
		if !stays() {
			t.Errorf("%d: what it was handed changed with the answer: %v", i, s)
		}
	}
	s, stays := roomy()
	Read(s, 0, 0)
	Check(s)
	if !stays() {
		t.Errorf("%v", s)
	}
}

// P2: no two lists of an answer share memory.
func TestListsAreApart(t *testing.T) {
	for i, call := range changes() {
		s, _ := call(busy())
		for m := range s.Maps {
			was := twin(s)
			all := s.Maps[m][:cap(s.Maps[m])]
			for block := range all {
				all[block] = -9
			}
			for other := range s.Maps {
				if other != m && !slices.Equal(s.Maps[other], was.Maps[other]) {
					t.Fatalf("%d: maps %d and %d share memory", i, m, other)
				}
			}
		}
	}
}

// P3: calls between, and what is done to their answers, change no answer.
func TestAnswersStay(t *testing.T) {
	s := busy()
	for _, call := range changes() {
		first, _ := call(s)
		want := twin(first)
		scribble(first)
		scribble(made(t, 3))
		for _, other := range changes() {
			between, _ := other(s)
			scribble(between)
		}
		Read(api.Store{}, 0, 0)
		becomes(t, s, call, want, api.OK)
		reads(t, s, 0, 0, "c", api.OK)
	}
}

// P1: no call panics, whatever it is handed; with an error the rest is zero, and without one there is a store.
func TestNoPanic(t *testing.T) {
	d := draw(2)
	odd := func() int {
		if d.below(8) > 0 {
			return d.below(4)
		}
		return []int{math.MinInt, -1, 12, 32, 33, 200, 201, math.MaxInt}[d.below(8)]
	}
	changed := 0
	for range 20000 {
		s := busy()
		switch d.below(6) {
		case 0:
			s.Cells = s.Cells[:d.below(7)]
		case 1:
			s.Cells = append(s.Cells, api.Cell{Data: strings.Repeat("x", d.below(2)*65), Refs: odd()})
		case 2:
			s.Maps = append(s.Maps[:d.below(4)], make([]int, d.below(5)))
		case 3:
			s.Maps[d.below(3)][d.below(3)] = odd()
		case 4:
			s.Cells[d.below(6)].Refs = odd()
		}
		a, b := odd(), odd()
		text, f := Read(s, a, b)
		if f != api.OK && text != "" {
			t.Fatalf("Read(%v, %d, %d) = %q, %d", s, a, b, text, f)
		}
		for _, call := range []func(api.Store) (api.Store, api.Errno){toWrite(a, strings.Repeat("x", d.below(66))), Snap, toDrop(a), toBack(a)} {
			next, e := call(s)
			if e != api.OK && !same(next, api.Store{}) || e == api.OK && Check(next) != api.OK {
				t.Fatalf("%v, %d: %v, %d", s, a, next, e)
			}
			if e == api.OK {
				changed++
			}
		}
	}
	if changed < 10000 {
		t.Errorf("only %d were changed", changed)
	}
}
