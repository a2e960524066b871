package ask

import (
	"math"
	"slices"
	"strings"
	"testing"

	"supercargo/api"
)

// draw gives the same numbers each time.
type draw uint64

func (d *draw) below(n int) int {
	*d = *d*6364136223846793005 + 1442695040888963407
	return int(uint64(*d) >> 33 % uint64(n))
}

func of(time, who int, data string) api.Copy {
	return api.Copy{At: api.Stamp{Time: time, Who: who}, Data: data}
}

// long: so many bytes.
func long(bytes int) string { return strings.Repeat("z", bytes) }

// alike: so many nodes of weight 1, of which more than half are needed.
func alike(nodes int) api.Voters {
	return api.Voters{Weights: slices.Repeat([]int{1}, nodes), Need: nodes/2 + 1}
}

// some voters that are good.
func some() []api.Voters {
	return []api.Voters{alike(1), alike(2), alike(3), alike(5), alike(12), {Weights: []int{3, 1, 0}, Need: 3}, {Weights: []int{0, 2, 2, 1}, Need: 4}, {Weights: []int{100, 0}, Need: 51}}
}

// wrong: voters and an operation, and what Check answers of them.
type wrong struct {
	v    api.Voters
	a    api.Ask
	want api.Errno
}

// badVoters: each kind of fault of them; whatever the operation is, they tell first.
func badVoters() []wrong {
	var all []wrong
	for _, a := range []api.Ask{{Kind: 1, Phase: 1}, {Op: -1}, {Kind: 2, Phase: 1, Data: long(65), Heard: math.MaxUint64}} {
		all = append(all,
			wrong{api.Voters{}, a, api.ErrFew},
			wrong{alike(13), a, api.ErrMany},
			wrong{api.Voters{Weights: []int{1, -1, 1}, Need: 2}, a, api.ErrRange},
			wrong{api.Voters{Weights: []int{101}, Need: 101}, a, api.ErrRange},
			wrong{api.Voters{Weights: []int{1, 1}, Need: 3}, a, api.ErrRange},
			wrong{api.Voters{Weights: []int{1, 1}, Need: 0}, a, api.ErrRange},
			wrong{api.Voters{Weights: []int{1, 1}, Need: 1}, a, api.ErrState},
		)
	}
	return all
}

// badAsks: each limit, and of several faults the one that L1 names first.
func badAsks() []wrong {
	three := alike(3)
	return []wrong{
		{three, api.Ask{Op: -1, Kind: 1, Phase: 1}, api.ErrRange},
		{three, api.Ask{Op: 31, Kind: 1, Phase: 1}, api.ErrRange},
		{three, api.Ask{Op: math.MaxInt, Kind: 2, Phase: 3}, api.ErrRange},
		{three, api.Ask{Op: math.MinInt, Kind: 9, Phase: 9, Data: long(65)}, api.ErrRange},
		{three, api.Ask{Phase: 1}, api.ErrKind},
		{three, api.Ask{Kind: 3, Phase: 1}, api.ErrKind},
		{three, api.Ask{Kind: -1, Phase: 1}, api.ErrKind},
		{three, api.Ask{Kind: 1}, api.ErrKind},
		{three, api.Ask{Kind: 1, Phase: 4}, api.ErrKind},
		{three, api.Ask{Kind: 2, Phase: -1, Data: long(65)}, api.ErrKind},
		{three, api.Ask{Kind: 3, Phase: 1, Data: long(65)}, api.ErrKind},
		{three, api.Ask{Kind: 2, Phase: 1, Data: long(65)}, api.ErrMany},
		{three, api.Ask{Kind: 1, Phase: 1, Data: long(65)}, api.ErrMany},
		{three, api.Ask{Kind: 2, Phase: 1, Data: long(65), Best: of(-1, 0, ""), Heard: 8}, api.ErrMany},
		{three, api.Ask{Kind: 1, Phase: 1, Data: "x"}, api.ErrForm},
		{three, api.Ask{Kind: 1, Phase: 3, Data: "\x00", Best: of(-1, 0, ""), Heard: 8}, api.ErrForm},
		{three, api.Ask{Kind: 1, Phase: 1, Best: of(-1, 0, "")}, api.ErrRange},
		{three, api.Ask{Kind: 1, Phase: 1, Best: of(api.MaxTime+1, 0, long(65))}, api.ErrRange},
		{three, api.Ask{Kind: 2, Phase: 2, Best: of(0, 32, "")}, api.ErrRange},
		{three, api.Ask{Kind: 2, Phase: 2, Best: of(0, 0, long(65))}, api.ErrMany},
		{three, api.Ask{Kind: 2, Phase: 2, Best: of(0, 0, long(65)), Heard: 8}, api.ErrMany},
		{three, api.Ask{Kind: 1, Phase: 1, Heard: 8}, api.ErrRange},
		{three, api.Ask{Kind: 1, Phase: 3, Heard: 15}, api.ErrRange},
		{three, api.Ask{Kind: 1, Phase: 2, Heard: 1 << 63}, api.ErrRange},
		{alike(12), api.Ask{Kind: 1, Phase: 1, Heard: 1 << 12}, api.ErrRange},
		{alike(1), api.Ask{Kind: 1, Phase: 1, Heard: 2}, api.ErrRange},
	}
}

// badMsgs: messages that chapter 11 would not have, and its error.
func badMsgs() []struct {
	m    api.Msg
	want api.Errno
} {
	return []struct {
		m    api.Msg
		want api.Errno
	}{
		{api.Msg{}, api.ErrKind},
		{api.Msg{Kind: 5}, api.ErrKind},
		{api.Msg{Kind: 2, Op: 31}, api.ErrRange},
		{api.Msg{Kind: 2, Op: -1}, api.ErrRange},
		{api.Msg{Kind: 2, Node: 12}, api.ErrRange},
		{api.Msg{Kind: 2, Node: math.MinInt}, api.ErrRange},
		{api.Msg{Kind: 3, Copy: of(-1, 0, "")}, api.ErrRange},
		{api.Msg{Kind: 2, Copy: of(0, 0, long(65))}, api.ErrMany},
		{api.Msg{Kind: 1, Copy: of(0, 0, "x")}, api.ErrForm},
		{api.Msg{Kind: 4, Copy: of(1, 0, "")}, api.ErrForm},
	}
}

// L1: what is good, at the limits.
func TestCheckOfGoodAsks(t *testing.T) {
	for _, v := range some() {
		for _, a := range []api.Ask{
			{Kind: 1, Phase: 1},
			{Kind: 2, Phase: 1},
			{Op: 30, Kind: 2, Phase: 2, Data: long(64), Best: of(api.MaxTime, 31, long(64))},
			{Op: 5, Kind: 1, Phase: 3, Best: of(1, 0, "x"), Heard: 1<<len(v.Weights) - 1},
			{Kind: 1, Phase: 2, Heard: 1 << (len(v.Weights) - 1)},
		} {
			if e := Check(v, a); e != api.OK {
				t.Errorf("Check(%v, %v) = %d", v, a, e)
			}
		}
	}
}

// L1, L3, P1: the errors in their order; of Hear too, whatever the message is, and nothing beside them.
func TestWrongAsks(t *testing.T) {
	for _, c := range slices.Concat(badVoters(), badAsks()) {
		if e := Check(c.v, c.a); e != c.want {
			t.Errorf("Check(%v, %v) = %d, want %d", c.v, c.a, e, c.want)
		}
		for _, m := range []api.Msg{{Kind: 2}, {Kind: 4, Node: 1}, {Kind: 9}, {Kind: 2, Op: 31}} {
			if a, l, e := Hear(c.v, c.a, m); a != (api.Ask{}) || len(l) != 0 || e != c.want {
				t.Errorf("Hear(%v, %v, %v) = %v, %v, %d, want %d", c.v, c.a, m, a, l, e, c.want)
			}
		}
	}
}

// L3, P1: errors of the message, in each phase.
func TestHearOfWrongMessages(t *testing.T) {
	for _, c := range badMsgs() {
		for phase := 1; phase <= 3; phase++ {
			a, l, e := Hear(alike(3), api.Ask{Kind: 2, Phase: phase, Data: "x", Heard: 1}, c.m)
			if a != (api.Ask{}) || len(l) != 0 || e != c.want {
				t.Errorf("phase %d, %v: %v, %v, %d, want %d", phase, c.m, a, l, e, c.want)
			}
		}
	}
}

// L2: an operation that knows nothing, and a query to each node, in order.
func TestBegin(t *testing.T) {
	for _, v := range some() {
		var queries []api.Msg
		for node := range v.Weights {
			queries = append(queries, api.Msg{Kind: api.MsgQuery, Op: 7, Node: node})
		}
		for _, want := range []api.Ask{{Op: 7, Kind: 1, Phase: 1}, {Op: 7, Kind: 2, Phase: 1}, {Op: 7, Kind: 2, Phase: 1, Data: "new"}, {Op: 7, Kind: 2, Phase: 1, Data: long(64)}} {
			if a, l, e := Begin(v, 7, want.Kind, want.Data); a != want || !slices.Equal(l, queries) || e != api.OK {
				t.Errorf("Begin(%v, 7, %d, %q) = %v, %v, %d", v, want.Kind, want.Data, a, l, e)
			}
		}
	}
}

// L2, P1: errors as Check's of what it would be, and nothing beside them.
func TestBeginOfWrongInputs(t *testing.T) {
	fails := func(v api.Voters, op, kind int, data string, want api.Errno) {
		t.Helper()
		if a, l, e := Begin(v, op, kind, data); a != (api.Ask{}) || len(l) != 0 || e != want {
			t.Errorf("Begin(%v, %d, %d, %d bytes) = %v, %v, %d, want %d", v, op, kind, len(data), a, l, e, want)
		}
	}
	for _, c := range badVoters() {
		fails(c.v, 0, 1, "", c.want)
		fails(c.v, -1, 0, long(65), c.want)
	}
	three := alike(3)
	fails(three, -1, 1, "", api.ErrRange)
	fails(three, 31, 2, "x", api.ErrRange)
	fails(three, 31, 0, long(65), api.ErrRange)
	fails(three, 0, 0, "", api.ErrKind)
	fails(three, 0, 3, long(65), api.ErrKind)
	fails(three, 0, 2, long(65), api.ErrMany)
	fails(three, 0, 1, long(65), api.ErrMany)
	fails(three, 0, 1, "x", api.ErrForm)
}

// hear without an error.
func hear(t *testing.T, v api.Voters, a api.Ask, m api.Msg) (api.Ask, []api.Msg) {
	t.Helper()
	now, sent, e := Hear(v, a, m)
	if e != api.OK {
		t.Fatalf("Hear(%v, %v, %v): %d", v, a, m, e)
	}
	return now, sent
}

// L3: what was reckoned by hand: an operation, a message, what becomes of it, and the copy that it puts.
func TestHearOfSome(t *testing.T) {
	three := alike(3)
	old, late := of(3, 2, "old"), of(4, 0, "late")
	for i, c := range []struct {
		v    api.Voters
		a    api.Ask
		m    api.Msg
		want api.Ask
		puts bool
	}{
		{three, api.Ask{Op: 5, Kind: 1, Phase: 1}, api.Msg{Kind: 2, Op: 5, Node: 1, Copy: old}, api.Ask{Op: 5, Kind: 1, Phase: 1, Best: old, Heard: 2}, false},
		{three, api.Ask{Op: 5, Kind: 1, Phase: 1, Best: late, Heard: 1}, api.Msg{Kind: 2, Op: 5, Node: 1, Copy: old}, api.Ask{Op: 5, Kind: 1, Phase: 2, Best: late}, true},
		{three, api.Ask{Op: 5, Kind: 1, Phase: 1, Best: old, Heard: 1}, api.Msg{Kind: 2, Op: 5, Node: 2, Copy: late}, api.Ask{Op: 5, Kind: 1, Phase: 2, Best: late}, true},
		{three, api.Ask{Op: 5, Kind: 1, Phase: 1, Best: old, Heard: 1}, api.Msg{Kind: 2, Op: 5, Node: 2, Copy: of(3, 2, "other")}, api.Ask{Op: 5, Kind: 1, Phase: 2, Best: old}, true},
		{three, api.Ask{Op: 5, Kind: 1, Phase: 1, Heard: 1}, api.Msg{Kind: 2, Op: 5, Node: 2}, api.Ask{Op: 5, Kind: 1, Phase: 2}, true},
		{three, api.Ask{Op: 5, Kind: 2, Phase: 1, Data: "new", Best: old, Heard: 1}, api.Msg{Kind: 2, Op: 5, Node: 2, Copy: late}, api.Ask{Op: 5, Kind: 2, Phase: 2, Data: "new", Best: of(5, 5, "new")}, true},
		{three, api.Ask{Op: 0, Kind: 2, Phase: 1, Data: "", Heard: 4}, api.Msg{Kind: 2, Copy: of(0, 31, "x")}, api.Ask{Kind: 2, Phase: 2, Best: of(1, 0, "")}, true},
		{three, api.Ask{Op: 30, Kind: 2, Phase: 1, Data: "new", Heard: 3}, api.Msg{Kind: 2, Op: 30, Node: 2}, api.Ask{Op: 30, Kind: 2, Phase: 2, Data: "new", Best: of(1, 30, "new")}, true}, // enough were heard ahead of it
		{three, api.Ask{Op: 5, Kind: 2, Phase: 1, Data: "new", Heard: 7}, api.Msg{Kind: 2, Op: 5, Node: 2, Copy: old}, api.Ask{Op: 5, Kind: 2, Phase: 1, Data: "new", Heard: 7}, false},
		{three, api.Ask{Op: 5, Kind: 2, Phase: 1, Data: "new", Best: of(999999, 31, "x"), Heard: 1}, api.Msg{Kind: 2, Op: 5, Node: 2}, api.Ask{Op: 5, Kind: 2, Phase: 2, Data: "new", Best: of(1000000, 5, "new")}, true},
		{three, api.Ask{Op: 5, Kind: 2, Phase: 1, Data: "new", Best: of(1000000, 0, "x"), Heard: 1}, api.Msg{Kind: 2, Op: 5, Node: 2}, api.Ask{Op: 5, Kind: 2, Phase: 1, Data: "new", Best: of(1000000, 0, "x"), Heard: 1}, false},
		{three, api.Ask{Op: 5, Kind: 2, Phase: 1, Data: "new", Best: old, Heard: 1}, api.Msg{Kind: 2, Op: 5, Node: 2, Copy: of(1000000, 0, "x")}, api.Ask{Op: 5, Kind: 2, Phase: 1, Data: "new", Best: old, Heard: 1}, false}, // not even the copy is known then
		{three, api.Ask{Op: 5, Kind: 2, Phase: 1, Data: "new", Best: old}, api.Msg{Kind: 2, Op: 5, Node: 2, Copy: of(1000000, 0, "x")}, api.Ask{Op: 5, Kind: 2, Phase: 1, Data: "new", Best: of(1000000, 0, "x"), Heard: 4}, false},
		{three, api.Ask{Op: 5, Kind: 1, Phase: 1, Best: old, Heard: 1}, api.Msg{Kind: 2, Op: 5, Node: 2, Copy: of(1000000, 0, "x")}, api.Ask{Op: 5, Kind: 1, Phase: 2, Best: of(1000000, 0, "x")}, true},
		{three, api.Ask{Op: 5, Kind: 1, Phase: 2, Best: old}, api.Msg{Kind: 4, Op: 5, Node: 2}, api.Ask{Op: 5, Kind: 1, Phase: 2, Best: old, Heard: 4}, false},
		{three, api.Ask{Op: 5, Kind: 1, Phase: 2, Best: old, Heard: 4}, api.Msg{Kind: 4, Op: 5, Node: 0}, api.Ask{Op: 5, Kind: 1, Phase: 3, Best: old, Heard: 5}, false},
		{three, api.Ask{Op: 5, Kind: 2, Phase: 2, Data: "new", Best: of(1000000, 5, "new"), Heard: 4}, api.Msg{Kind: 4, Op: 5, Node: 0}, api.Ask{Op: 5, Kind: 2, Phase: 3, Data: "new", Best: of(1000000, 5, "new"), Heard: 5}, false},
		{alike(1), api.Ask{Op: 5, Kind: 2, Phase: 1, Data: "new"}, api.Msg{Kind: 2, Op: 5, Copy: late}, api.Ask{Op: 5, Kind: 2, Phase: 2, Data: "new", Best: of(5, 5, "new")}, true},
		{api.Voters{Weights: []int{3, 1, 0}, Need: 3}, api.Ask{Kind: 1, Phase: 1, Heard: 2}, api.Msg{Kind: 2, Node: 2}, api.Ask{Kind: 1, Phase: 1, Heard: 6}, false},
		{api.Voters{Weights: []int{3, 1, 0}, Need: 3}, api.Ask{Kind: 1, Phase: 2, Heard: 6}, api.Msg{Kind: 4}, api.Ask{Kind: 1, Phase: 3, Heard: 7}, false},
	} {
		var puts []api.Msg
		for node := range c.v.Weights {
			if c.puts {
				puts = append(puts, api.Msg{Kind: api.MsgPut, Op: c.a.Op, Node: node, Copy: c.want.Best})
			}
		}
		if now, sent := hear(t, c.v, c.a, c.m); now != c.want || !slices.Equal(sent, puts) {
			t.Errorf("%d: %v, %v, want %v, %v", i, now, sent, c.want, puts)
		}
	}
}

// L3: everything else changes nothing: another kind, another operation, a node that is none, one that was heard.
func TestHearOfOtherMessages(t *testing.T) {
	for phase := 1; phase <= 3; phase++ {
		for kind := 1; kind <= 4; kind++ {
			for _, m := range []api.Msg{{Op: 5, Node: 1}, {Op: 4, Node: 1}, {Op: 0, Node: 1}, {Op: 5, Node: 0}, {Op: 5, Node: 3}, {Op: 5, Node: 11}} {
				if m.Kind = kind; kind == 2 || kind == 3 {
					m.Copy = of(9, 9, "other")
				}
				wanted := m.Op == 5 && m.Node == 1 && (phase == 1 && kind == 2 || phase == 2 && kind == 4)
				a := api.Ask{Op: 5, Kind: 2, Phase: phase, Data: "new", Best: of(3, 2, "old"), Heard: 1}
				now, sent := hear(t, alike(3), a, m)
				if changed := now != a || len(sent) > 0; changed != wanted {
					t.Errorf("phase %d, %v: %v, %v", phase, m, now, sent)
				}
			}
		}
	}
}

// L4: by hand.
func TestServe(t *testing.T) {
	has := of(3, 2, "old")
	for _, c := range []struct {
		m    api.Msg
		want api.Copy
		sent []api.Msg
	}{
		{api.Msg{Kind: 1, Op: 5, Node: 7}, has, []api.Msg{{Kind: 2, Op: 5, Node: 7, Copy: has}}},
		{api.Msg{Kind: 1}, has, []api.Msg{{Kind: 2, Copy: has}}},
		{api.Msg{Kind: 2, Op: 5, Node: 7, Copy: of(9, 9, "other")}, has, nil},
		{api.Msg{Kind: 3, Op: 5, Node: 7, Copy: of(4, 0, "new")}, of(4, 0, "new"), []api.Msg{{Kind: 4, Op: 5, Node: 7}}},
		{api.Msg{Kind: 3, Op: 30, Node: 11, Copy: of(3, 3, "")}, of(3, 3, ""), []api.Msg{{Kind: 4, Op: 30, Node: 11}}},
		{api.Msg{Kind: 3, Op: 5, Copy: of(3, 2, "same stamp")}, has, []api.Msg{{Kind: 4, Op: 5}}},
		{api.Msg{Kind: 3, Op: 5, Copy: of(3, 1, "older")}, has, []api.Msg{{Kind: 4, Op: 5}}},
		{api.Msg{Kind: 3}, has, []api.Msg{{Kind: 4}}},
		{api.Msg{Kind: 4, Op: 5, Node: 7}, has, nil},
	} {
		if now, sent, e := Serve(has, c.m); now != c.want || !slices.Equal(sent, c.sent) || e != api.OK {
			t.Errorf("Serve of %v: %v, %v, %d", c.m, now, sent, e)
		}
	}
	if now, sent, e := Serve(api.Copy{}, api.Msg{Kind: 1, Op: 1, Node: 1}); now != (api.Copy{}) || !slices.Equal(sent, []api.Msg{{Kind: 2, Op: 1, Node: 1}}) || e != api.OK {
		t.Errorf("Serve of the zero copy: %v, %v, %d", now, sent, e)
	}
}

// L4, P1: errors of the copy go first, then those of the message; nothing beside them.
func TestServeOfWrongInputs(t *testing.T) {
	fails := func(c api.Copy, m api.Msg, want api.Errno) {
		t.Helper()
		if now, sent, e := Serve(c, m); now != (api.Copy{}) || len(sent) != 0 || e != want {
			t.Errorf("Serve(%v, %v) = %v, %v, %d, want %d", c, m, now, sent, e, want)
		}
	}
	for kind := 0; kind <= 5; kind++ {
		fails(of(-1, 0, "a"), api.Msg{Kind: kind}, api.ErrRange)
		fails(of(0, 32, long(65)), api.Msg{Kind: kind}, api.ErrRange)
		fails(of(1, 0, long(65)), api.Msg{Kind: kind}, api.ErrMany)
	}
	for _, c := range badMsgs() {
		fails(of(1, 1, "a"), c.m, c.want)
		fails(api.Copy{}, c.m, c.want)
	}
}

// enough: do the nodes of a set weigh what is needed?
func enough(v api.Voters, set uint64) bool {
	sum := 0
	for i, weight := range v.Weights {
		sum += weight * int(set>>i&1)
	}
	return sum >= v.Need
}

// world: nodes, operations, and messages on their way.
type world struct {
	v     api.Voters
	nodes []api.Copy
	asks  []api.Ask
	net   []api.Msg
}

// begin an operation.
func (w *world) begin(t *testing.T, kind int, data string) {
	a, sent, e := Begin(w.v, len(w.asks), kind, data)
	if e != api.OK {
		t.Fatalf("Begin: %d", e)
	}
	w.asks, w.net = append(w.asks, a), append(w.net, sent...)
}

// pass message i to whom it is for.
func (w *world) pass(t *testing.T, i int) {
	m := w.net[i]
	var sent []api.Msg
	var e api.Errno
	switch m.Kind {
	case api.MsgQuery, api.MsgPut:
		w.nodes[m.Node], sent, e = Serve(w.nodes[m.Node], m)
	default:
		w.asks[m.Op], sent, e = Hear(w.v, w.asks[m.Op], m)
	}
	if e != api.OK {
		t.Fatalf("%v: %d", m, e)
	}
	w.net = append(w.net, sent...)
}

// keeps: which nodes have the copy that an operation put, or a later one.
func (w *world) keeps(a api.Ask) uint64 {
	set := uint64(0)
	for i, c := range w.nodes {
		if c.At.Time > a.Best.At.Time || c.At.Time == a.Best.At.Time && c.At.Who >= a.Best.At.Who {
			set |= 1 << i
		}
	}
	return set
}

// step: a message comes, is lost, or comes and is there still.
func (w *world) step(t *testing.T, d *draw) {
	i := d.below(len(w.net))
	how := d.below(8)
	if how > 0 {
		w.pass(t, i)
	}
	if how < 7 {
		w.net = slices.Delete(w.net, i, i+1)
	}
}

// L5: whatever is lost, comes twice or out of turn: as soon as an operation is done, and from then on, enough nodes have what it put, or something later; and one that reads has what was written, or nothing.
func TestDoneIsKept(t *testing.T) {
	d := draw(1)
	done := 0
	for round := range 400 {
		v := some()[round%len(some())]
		w := &world{v: v, nodes: make([]api.Copy, len(v.Weights))}
		for steps := 0; steps < 300 && (len(w.net) > 0 || len(w.asks) < 6); steps++ {
			if len(w.asks) < 6 && (len(w.net) == 0 || d.below(12) == 0) {
				kind := 1 + d.below(2)
				w.begin(t, kind, []string{"", string(rune('a' + len(w.asks)))}[kind-1])
				continue
			}
			w.step(t, &d)
			for _, a := range w.asks {
				if a.Phase == api.PhaseDone && !enough(v, w.keeps(a)) {
					t.Fatalf("%v: %v is done, and nodes have %v", v, a, w.nodes)
				}
			}
		}
		for _, a := range w.asks {
			if a.Phase != api.PhaseDone {
				continue
			}
			done++
			if want := string(rune('a' + a.Best.At.Who)); a.Best != (api.Copy{}) && a.Best.Data != want {
				t.Fatalf("%v: %v", v, a)
			}
		}
	}
	if done < 400 {
		t.Errorf("only %d were done", done)
	}
}

// L3, L4: with no message lost all operations are done, one behind the other, and each one knows what the one ahead of it knew.
func TestOneBehindTheOther(t *testing.T) {
	for _, v := range some() {
		w := &world{v: v, nodes: make([]api.Copy, len(v.Weights))}
		for op := range api.MaxOps {
			if op%3 == 0 {
				w.begin(t, api.AskWrite, strings.Repeat("w", op))
			} else {
				w.begin(t, api.AskRead, "")
			}
			for len(w.net) > 0 {
				w.pass(t, 0)
				w.net = w.net[1:]
			}
			want := of(op/3+1, op-op%3, strings.Repeat("w", op-op%3))
			if a := w.asks[op]; a.Phase != api.PhaseDone || a.Best != want || !enough(v, a.Heard) {
				t.Fatalf("%v: %v, want %v", v, a, want)
			}
		}
	}
}

// P2: weights, and the spare room behind them, are only read; an answer is the caller's, and does not change with them.
func TestWeightsAreOnlyRead(t *testing.T) {
	room := []int{1, 1, 1, 77, -8}
	v := api.Voters{Weights: room[:3], Need: 2}
	a, queries, e := Begin(v, 5, api.AskWrite, "new")
	now, sent := hear(t, v, api.Ask{Op: 5, Kind: 2, Phase: 1, Data: "new", Heard: 1}, api.Msg{Kind: 2, Op: 5, Node: 1})
	if e != api.OK || len(queries) != 3 || len(sent) != 3 {
		t.Fatalf("%v, %d; %v", queries, e, sent)
	}
	if !slices.Equal(room, []int{1, 1, 1, 77, -8}) {
		t.Errorf("it is %v", room)
	}
	clear(room)
	clear(sent)
	if a.Op != 5 || queries[2] != (api.Msg{Kind: 1, Op: 5, Node: 2}) || now.Best != of(1, 5, "new") {
		t.Errorf("%v, %v, %v", a, queries, now)
	}
}

// P3: calls between change no answer.
func TestAnswersStay(t *testing.T) {
	a := api.Ask{Op: 5, Kind: 2, Phase: 1, Data: "new", Best: of(3, 2, "old"), Heard: 1}
	m := api.Msg{Kind: 2, Op: 5, Node: 1}
	first, sent := hear(t, alike(3), a, m)
	was := slices.Clone(sent)
	clear(sent)
	hear(t, alike(5), api.Ask{Op: 5, Kind: 1, Phase: 1}, m)
	Hear(api.Voters{}, a, m)
	if again, resent := hear(t, alike(3), a, m); again != first || !slices.Equal(resent, was) {
		t.Errorf("first %v, %v, then %v, %v", first, was, again, resent)
	}
}

// P1: no call panics, whatever it is handed; with an error the rest is empty.
func TestNoPanic(t *testing.T) {
	d := draw(2)
	odd := func() int {
		if d.below(6) > 0 {
			return d.below(4)
		}
		return []int{math.MinInt, -1, 12, 31, 64, 1000001, math.MaxInt}[d.below(7)]
	}
	text := func() string { return long([]int{0, 1, 64, 65}[d.below(4)]) }
	for range 20000 {
		v := some()[d.below(len(some()))]
		if d.below(8) == 0 {
			v = api.Voters{Weights: []int{odd(), odd()}, Need: odd()}
		}
		c := of(odd(), odd(), text())
		a := api.Ask{Op: odd(), Kind: odd(), Phase: odd(), Data: text(), Best: c, Heard: uint64(1)<<d.below(64) - 1}
		m := api.Msg{Kind: odd(), Op: odd(), Node: odd(), Copy: of(odd(), odd(), text())}
		now, sent, e := Hear(v, a, m)
		begun, queries, f := Begin(v, a.Op, a.Kind, a.Data)
		kept, answers, g := Serve(c, m)
		if e != api.OK && (now != (api.Ask{}) || len(sent) > 0) || f != api.OK && (begun != (api.Ask{}) || len(queries) > 0) || g != api.OK && (kept != (api.Copy{}) || len(answers) > 0) {
			t.Fatalf("%v, %v, %v: %v, %v, %d; %v, %v, %d; %v, %v, %d", v, a, m, now, sent, e, begun, queries, f, kept, answers, g)
		}
		if e == api.OK && Check(v, now) != api.OK {
			t.Fatalf("Hear(%v, %v, %v) = %v", v, a, m, now)
		}
	}
}
