package copies

import (
	"math"
	"slices"
	"strings"
	"testing"

	"supercargo/api"
)

// draw gives the same numbers each time.
type draw uint64

func (d *draw) below(n int) int {
	*d = *d*6364136223846793005 + 1442695040888963407
	return int(uint64(*d) >> 33 % uint64(n))
}

// copies: so many, of few stamps, so that many are alike; each has data of its own.
func (d *draw) copies(many int) []api.Copy {
	out := make([]api.Copy, many)
	for i := range out {
		out[i] = of(d.below(3), d.below(3), string(rune('a'+i)))
	}
	return out
}

func of(time, who int, data string) api.Copy {
	return api.Copy{At: api.Stamp{Time: time, Who: who}, Data: data}
}

// long: so many bytes.
func long(bytes int) string { return strings.Repeat("z", bytes) }

// wrong: a copy, and what Check answers of it.
type wrong struct {
	c    api.Copy
	want api.Errno
}

// wrongs: each limit; of both faults that of the stamp, which J1 names first.
func wrongs() []wrong {
	return []wrong{
		{of(-1, 0, ""), api.ErrRange},
		{of(math.MinInt, 0, "a"), api.ErrRange},
		{of(api.MaxTime+1, 0, "a"), api.ErrRange},
		{of(math.MaxInt, 0, "a"), api.ErrRange},
		{of(0, -1, ""), api.ErrRange},
		{of(1, 32, "a"), api.ErrRange},
		{of(1, math.MaxInt, "a"), api.ErrRange},
		{of(-1, 0, long(65)), api.ErrRange},
		{of(1, 32, long(65)), api.ErrRange},
		{of(0, 0, long(65)), api.ErrMany},
		{of(1, 0, long(65)), api.ErrMany},
		{of(api.MaxTime, 31, long(100000)), api.ErrMany},
	}
}

// goods: good copies at the limits.
func goods() []api.Copy {
	return []api.Copy{{}, of(0, 0, "zero"), of(0, 31, ""), of(1, 0, long(64)), of(api.MaxTime, 0, "a"), of(api.MaxTime, 31, "\x00\xff\n"), of(1, 2, "a"), of(1, 2, "b")}
}

// J1: what is good, and what is wrong.
func TestCheck(t *testing.T) {
	for _, c := range goods() {
		if e := Check(c); e != api.OK {
			t.Errorf("Check(%v) = %d", c, e)
		}
	}
	for _, c := range wrongs() {
		if e := Check(c.c); e != c.want {
			t.Errorf("Check(%v) = %d, want %d", c.c.At, e, c.want)
		}
	}
}

// J1: the one of the greater stamp, whichever it is; of equal stamps the first one.
func TestStore(t *testing.T) {
	for _, c := range []struct{ c, other, want api.Copy }{
		{api.Copy{}, api.Copy{}, api.Copy{}},
		{api.Copy{}, of(1, 0, "a"), of(1, 0, "a")},
		{api.Copy{}, of(0, 1, "a"), of(0, 1, "a")},
		{of(1, 0, "a"), api.Copy{}, of(1, 0, "a")},
		{of(1, 2, "a"), of(1, 2, "b"), of(1, 2, "a")},
		{of(1, 2, "b"), of(1, 2, "a"), of(1, 2, "b")},
		{of(1, 2, ""), of(1, 2, "a"), of(1, 2, "")},
		{of(0, 0, "a"), api.Copy{}, of(0, 0, "a")},
		{api.Copy{}, of(0, 0, "a"), api.Copy{}},
		{of(1, 31, "a"), of(2, 0, "b"), of(2, 0, "b")},
		{of(2, 0, "b"), of(1, 31, "a"), of(2, 0, "b")},
		{of(1, 2, "long"), of(1, 3, ""), of(1, 3, "")},
		{of(1, 3, ""), of(1, 2, "long"), of(1, 3, "")},
		{of(1, 0, long(64)), of(0, 31, "a"), of(1, 0, long(64))},
		{of(api.MaxTime, 30, "a"), of(api.MaxTime, 31, "b"), of(api.MaxTime, 31, "b")},
	} {
		if got, e := Store(c.c, c.other); got != c.want || e != api.OK {
			t.Errorf("Store(%v, %v) = %v, %d, want %v", c.c, c.other, got, e, c.want)
		}
	}
}

// J1, P1: Check of c goes first, then that of the other one; nothing beside an error.
func TestStoreOfWrongCopies(t *testing.T) {
	for _, a := range wrongs() {
		for _, c := range goods() {
			if got, e := Store(a.c, c); got != (api.Copy{}) || e != a.want {
				t.Errorf("Store(%v, %v) = %v, %d, want %d", a.c.At, c.At, got, e, a.want)
			}
			if got, e := Store(c, a.c); got != (api.Copy{}) || e != a.want {
				t.Errorf("Store(%v, %v) = %v, %d, want %d", c.At, a.c.At, got, e, a.want)
			}
		}
		for _, b := range wrongs() {
			if got, e := Store(a.c, b.c); got != (api.Copy{}) || e != a.want {
				t.Errorf("Store(%v, %v) = %v, %d, want %d", a.c.At, b.c.At, got, e, a.want)
			}
		}
	}
}

// J2: lists, and what was reckoned of them by hand.
func TestMergeAndStaleOfSome(t *testing.T) {
	for _, c := range []struct {
		l     []api.Copy
		want  api.Copy
		stale uint64
	}{
		{nil, api.Copy{}, 0},
		{[]api.Copy{}, api.Copy{}, 0},
		{[]api.Copy{{}}, api.Copy{}, 0},
		{[]api.Copy{of(0, 0, "zero")}, of(0, 0, "zero"), 0},
		{[]api.Copy{of(0, 0, "zero"), {}}, of(0, 0, "zero"), 0},
		{[]api.Copy{{}, of(0, 0, "zero")}, api.Copy{}, 0},
		{[]api.Copy{of(1, 2, "a"), of(1, 2, "b")}, of(1, 2, "a"), 0},
		{[]api.Copy{of(1, 2, "b"), of(1, 2, "a")}, of(1, 2, "b"), 0},
		{[]api.Copy{{}, of(1, 2, "b"), of(1, 2, "a")}, of(1, 2, "b"), 1},
		{[]api.Copy{of(2, 0, "c"), of(2, 0, "d"), of(1, 31, "a")}, of(2, 0, "c"), 4},
		{[]api.Copy{{}, of(1, 2, "a"), of(1, 2, "b"), of(2, 0, "c"), of(1, 3, "")}, of(2, 0, "c"), 23},
		{[]api.Copy{of(1, 0, "a"), of(1, 1, ""), of(0, 31, "b")}, of(1, 1, ""), 5},
		{make([]api.Copy, 12), api.Copy{}, 0},
		{append(make([]api.Copy, 11), of(0, 1, "a")), of(0, 1, "a"), 1<<11 - 1},
		{append([]api.Copy{of(0, 1, "a")}, make([]api.Copy, 11)...), of(0, 1, "a"), 1<<12 - 2},
	} {
		if got, e := Merge(c.l); got != c.want || e != api.OK {
			t.Errorf("Merge(%v) = %v, %d, want %v", c.l, got, e, c.want)
		}
		if set, e := Stale(c.l); set != c.stale || e != api.OK {
			t.Errorf("Stale(%v) = %d, %d, want %d", c.l, set, e, c.stale)
		}
	}
}

// place of a good stamp among all of them.
func place(c api.Copy) int { return c.At.Time*(api.MaxWho+1) + c.At.Who }

// J2: of lists of each length: the first of the greatest stamp, and the set of those that are below.
func TestMergeAndStaleOfMany(t *testing.T) {
	d := draw(1)
	for many := 1; many <= api.MaxNodes; many++ {
		for range 300 {
			l := d.copies(many)
			best := 0
			for i := range l {
				if place(l[i]) > place(l[best]) {
					best = i
				}
			}
			stale := uint64(0)
			for i := range l {
				if place(l[i]) != place(l[best]) {
					stale += 1 << i
				}
			}
			got, e := Merge(l)
			set, f := Stale(l)
			if got != l[best] || set != stale || e != api.OK || f != api.OK {
				t.Fatalf("%v: %v, %d and %d, %d, want %v and %d", l, got, e, set, f, l[best], stale)
			}
		}
	}
}

// J2, P1: ErrMany goes first; then the first copy of which something is wrong tells; nothing beside an error.
func TestMergeAndStaleOfWrongLists(t *testing.T) {
	fails := func(l []api.Copy, want api.Errno) {
		t.Helper()
		got, e := Merge(l)
		set, f := Stale(l)
		if got != (api.Copy{}) || set != 0 || e != want || f != want {
			t.Errorf("of %d: %v, %d and %d, %d, want %d", len(l), got, e, set, f, want)
		}
	}
	fails(make([]api.Copy, 13), api.ErrMany)
	fails(make([]api.Copy, 100000), api.ErrMany)
	for _, a := range wrongs() {
		fails(slices.Repeat([]api.Copy{a.c}, 13), api.ErrMany)
		for i := range api.MaxNodes {
			l := slices.Repeat([]api.Copy{of(1, 1, "a")}, api.MaxNodes)
			l[i] = a.c
			fails(l, a.want)
		}
		for _, b := range wrongs() {
			fails([]api.Copy{of(5, 0, "a"), a.c, b.c}, a.want)
		}
	}
}

// stored: what a node that had a copy has when writes came, in that order.
func stored(t *testing.T, had api.Copy, writes []api.Copy) api.Copy {
	t.Helper()
	for _, w := range writes {
		now, e := Store(had, w)
		if e != api.OK {
			t.Fatalf("Store(%v, %v): %d", had, w, e)
		}
		had = now
	}
	return had
}

// orders: all orders of writes.
func orders(writes []api.Copy) [][]api.Copy {
	if len(writes) == 0 {
		return [][]api.Copy{nil}
	}
	var all [][]api.Copy
	for i, w := range writes {
		for _, rest := range orders(slices.Delete(slices.Clone(writes), i, i+1)) {
			all = append(all, append(rest, w))
		}
	}
	return all
}

// J3: all orders of writes of different stamps, and some that come more than once: the end is the same, and it is what Merge tells.
func TestOrderOfWritesIsNotSeen(t *testing.T) {
	writes := []api.Copy{of(1, 0, "a"), of(1, 3, "b"), of(2, 0, "c"), of(2, 1, ""), of(3, 0, "e")}
	d := draw(2)
	for _, had := range []api.Copy{{}, of(0, 5, "old"), of(2, 1, "had"), of(2, 30, "between"), of(9, 0, "new")} {
		want, e := Merge(slices.Concat([]api.Copy{had}, writes))
		if e != api.OK {
			t.Fatalf("Merge: %d", e)
		}
		for _, order := range orders(writes) {
			if got := stored(t, had, order); got != want {
				t.Fatalf("%v, then %v: %v, want %v", had, order, got, want)
			}
			for range 10 {
				order = slices.Insert(order, d.below(len(order)+1), writes[d.below(len(writes))])
			}
			if got := stored(t, had, order); got != want {
				t.Fatalf("%v, then %v: %v, want %v", had, order, got, want)
			}
		}
	}
}

// P2: copies, and the spare room behind them, are only read.
func TestCopiesAreOnlyRead(t *testing.T) {
	room := []api.Copy{of(1, 0, "a"), of(3, 0, "b"), of(2, 0, "c"), of(9, 0, "spare"), of(-1, 0, "wrong")}
	was := slices.Clone(room)
	got, e := Merge(room[:3])
	set, f := Stale(room[:3])
	if got != of(3, 0, "b") || set != 5 || e != api.OK || f != api.OK {
		t.Errorf("%v, %d and %d, %d", got, e, set, f)
	}
	if !slices.Equal(room, was) {
		t.Errorf("it was %v and is %v", was, room)
	}
}

// P2, P3: answers hang on what is handed in now, not on what stood there, nor on calls between.
func TestAnswersStay(t *testing.T) {
	l := []api.Copy{of(1, 0, "a"), of(2, 0, "b")}
	for range 2 {
		l[0] = of(1, 0, "a")
		first, _ := Merge(l)
		set, _ := Stale(l)
		l[0] = of(5, 0, "c")
		second, _ := Merge(l)
		other, _ := Stale(l)
		if first != of(2, 0, "b") || set != 1 || second != of(5, 0, "c") || other != 2 {
			t.Errorf("%v, %d and %v, %d", first, set, second, other)
		}
	}
}
