package cluster

import (
	"math"
	"slices"
	"strings"
	"testing"

	"supercargo/api"
)

// draw gives the same numbers each time.
type draw uint64

func (d *draw) below(n int) int {
	*d = *d*6364136223846793005 + 1442695040888963407
	return int(uint64(*d) >> 33 % uint64(n))
}

func of(time, who int, data string) api.Copy {
	return api.Copy{At: api.Stamp{Time: time, Who: who}, Data: data}
}

// long: so many bytes.
func long(bytes int) string { return strings.Repeat("z", bytes) }

// alike: so many nodes of weight 1, of which more than half are needed.
func alike(nodes int) api.Voters {
	return api.Voters{Weights: slices.Repeat([]int{1}, nodes), Need: nodes/2 + 1}
}

// some voters that are good.
func some() []api.Voters {
	return []api.Voters{alike(1), alike(2), alike(3), alike(5), alike(12), {Weights: []int{3, 1, 0}, Need: 3}, {Weights: []int{0, 2, 2, 1}, Need: 4}, {Weights: []int{100, 0}, Need: 51}}
}

// badVoters: each kind of fault of them.
func badVoters() map[api.Errno][]api.Voters {
	return map[api.Errno][]api.Voters{
		api.ErrFew:   {{}, {Need: 1}},
		api.ErrMany:  {alike(13)},
		api.ErrRange: {{Weights: []int{1, -1, 1}, Need: 2}, {Weights: []int{101}, Need: 101}, {Weights: []int{1, 1}, Need: 3}, {Weights: []int{1, 1}}},
		api.ErrState: {{Weights: []int{1, 1}, Need: 1}},
	}
}

// same: are two clusters alike in all that they have?
func same(a, b api.Cluster) bool {
	return slices.Equal(a.Voters.Weights, b.Voters.Weights) && a.Voters.Need == b.Voters.Need && slices.Equal(a.Nodes, b.Nodes) && slices.Equal(a.Asks, b.Asks) && slices.Equal(a.Terms, b.Terms) && slices.Equal(a.Net, b.Net) && a.Clock == b.Clock
}

// twin of a cluster, that shares nothing with it.
func twin(c api.Cluster) api.Cluster {
	c.Voters.Weights = slices.Clone(c.Voters.Weights)
	c.Nodes, c.Asks, c.Terms, c.Net = slices.Clone(c.Nodes), slices.Clone(c.Asks), slices.Clone(c.Terms), slices.Clone(c.Net)
	return c
}

// fresh: New without an error.
func fresh(t *testing.T, v api.Voters) api.Cluster {
	t.Helper()
	c, e := New(v)
	if e != api.OK {
		t.Fatalf("New(%v): %d", v, e)
	}
	return c
}

// do a step without an error; what it makes must be a cluster.
func do(t *testing.T, c api.Cluster, s api.Step) api.Cluster {
	t.Helper()
	next, e := Do(c, s)
	if e != api.OK {
		t.Fatalf("%v of %v: %d", s, c, e)
	}
	if e := Check(next); e != api.OK {
		t.Fatalf("%v of %v makes %v: %d", s, c, next, e)
	}
	return next
}

// fails: Do answers that error, and nothing beside it.
func fails(t *testing.T, c api.Cluster, s api.Step, want api.Errno) {
	t.Helper()
	was := twin(c)
	if next, e := Do(c, s); e != want || !same(next, api.Cluster{}) {
		t.Errorf("%v of %v: %v, %d, want %d", s, c, next, e, want)
	}
	if !same(c, was) {
		t.Errorf("%v: there was %v, there is %v", s, was, c)
	}
}

// queries of an operation to so many nodes.
func queries(op, nodes int) []api.Msg {
	var all []api.Msg
	for node := range nodes {
		all = append(all, api.Msg{Kind: api.MsgQuery, Op: op, Node: node})
	}
	return all
}

// puts of an operation to so many nodes.
func puts(op, nodes int, c api.Copy) []api.Msg {
	all := queries(op, nodes)
	for i := range all {
		all[i].Kind, all[i].Copy = api.MsgPut, c
	}
	return all
}

// M1: as many nodes as weights, each with the zero copy, and nothing else.
func TestNew(t *testing.T) {
	for _, v := range some() {
		c, e := New(v)
		if want := (api.Cluster{Voters: v, Nodes: make([]api.Copy, len(v.Weights))}); !same(c, want) || e != api.OK {
			t.Errorf("New(%v) = %v, %d", v, c, e)
		}
		if e := Check(c); e != api.OK {
			t.Errorf("Check(%v) = %d", c, e)
		}
	}
}

// M1, P1: errors of the voters, of all calls, whatever else is wrong, and nothing beside them.
func TestWrongVoters(t *testing.T) {
	for want, all := range badVoters() {
		for _, v := range all {
			if c, e := New(v); e != want || !same(c, api.Cluster{}) {
				t.Errorf("New(%v) = %v, %d, want %d", v, c, e, want)
			}
			for _, c := range []api.Cluster{{}, {Nodes: make([]api.Copy, len(v.Weights))}, {Nodes: []api.Copy{of(-1, 0, "")}, Clock: -1}} {
				c.Voters = v
				if e := Check(c); e != want {
					t.Errorf("Check(%v) = %d, want %d", c, e, want)
				}
				fails(t, c, api.Step{Kind: api.StepRead}, want)
				fails(t, c, api.Step{}, want)
				if now, done, e := Run(c, make([]api.Step, 201)); e != want || done != 0 || !same(now, api.Cluster{}) {
					t.Errorf("Run of %v: %v, %d, %d, want %d", c, now, done, e, want)
				}
			}
		}
	}
}

// busy: a cluster in which there is something of everything: an operation that asks, one that puts, one that is done.
func busy() api.Cluster {
	return api.Cluster{
		Voters: alike(3),
		Nodes:  []api.Copy{of(1, 1, "b"), of(1, 1, "b"), {}},
		Asks: []api.Ask{
			{Op: 0, Kind: api.AskRead, Phase: api.PhaseQuery, Heard: 4},
			{Op: 1, Kind: api.AskWrite, Phase: api.PhaseDone, Data: "b", Best: of(1, 1, "b"), Heard: 3},
			{Op: 2, Kind: api.AskWrite, Phase: api.PhasePut, Data: "c", Best: of(2, 2, "c")},
		},
		Terms: []api.Term{{Begin: 1}, {Begin: 2, End: 20}, {Begin: 3}},
		Net: []api.Msg{
			{Kind: api.MsgAnswer, Op: 0, Node: 0, Copy: of(1, 1, "b")},
			{Kind: api.MsgPut, Op: 2, Node: 2, Copy: of(2, 2, "c")},
			{Kind: api.MsgQuery, Op: 1, Node: 2},
			{Kind: api.MsgDone, Op: 2, Node: 1},
		},
		Clock: 40,
	}
}

// full: a cluster at all of its limits.
func full() api.Cluster {
	c := api.Cluster{Voters: alike(12), Nodes: slices.Repeat([]api.Copy{of(api.MaxTime, 31, long(64))}, 12), Clock: api.MaxClock}
	for op := range 31 {
		c.Asks = append(c.Asks, api.Ask{Op: op, Kind: api.AskWrite, Phase: api.PhaseDone, Data: long(64), Best: of(api.MaxTime, 31, long(64)), Heard: 1<<12 - 1})
		c.Terms = append(c.Terms, api.Term{Begin: api.MaxClock, End: api.MaxClock})
	}
	for range 200 {
		c.Net = append(c.Net, api.Msg{Kind: api.MsgPut, Op: 30, Node: 11, Copy: of(api.MaxTime, 31, long(64))})
	}
	return c
}

// M1: what is good, at the limits.
func TestCheckOfGoodClusters(t *testing.T) {
	for i, c := range []api.Cluster{
		busy(),
		full(),
		{Voters: alike(1), Nodes: []api.Copy{{}}, Clock: api.MaxClock},
		{Voters: alike(1), Nodes: []api.Copy{of(0, 0, "x")}, Asks: []api.Ask{{Kind: 1, Phase: 1}}, Terms: []api.Term{{Begin: 1}}, Clock: 1},
		{Voters: alike(1), Nodes: []api.Copy{{}}, Asks: []api.Ask{{Kind: 1, Phase: 3}}, Terms: []api.Term{{Begin: 1, End: 1}}, Clock: 1},
		{Voters: alike(1), Nodes: []api.Copy{{}}, Asks: []api.Ask{{Kind: 1, Phase: 3}}, Terms: []api.Term{{Begin: 7, End: 9}}, Clock: 9},
	} {
		if e := Check(c); e != api.OK {
			t.Errorf("%d: Check(%v) = %d", i, c, e)
		}
	}
}

// fault: what spoils a cluster, and what Check answers then.
type fault struct {
	spoil func(*api.Cluster)
	want  api.Errno
}

// faults of the busy cluster, in the order in which M1 names them.
func faults() []fault {
	term := func(op int, t api.Term) func(*api.Cluster) { return func(c *api.Cluster) { c.Terms[op] = t } }
	msg := func(n int, m api.Msg) func(*api.Cluster) { return func(c *api.Cluster) { c.Net[n] = m } }
	return []fault{
		{func(c *api.Cluster) { c.Voters.Need = 4 }, api.ErrRange},
		{func(c *api.Cluster) { c.Voters.Need = 1 }, api.ErrState},
		{func(c *api.Cluster) { c.Nodes = make([]api.Copy, 2) }, api.ErrForm},
		{func(c *api.Cluster) { c.Nodes = append(c.Nodes, api.Copy{}) }, api.ErrForm},
		{func(c *api.Cluster) { c.Nodes = nil }, api.ErrForm},
		{func(c *api.Cluster) { c.Nodes[0] = of(0, 32, long(65)) }, api.ErrRange},
		{func(c *api.Cluster) { c.Nodes[1] = of(0, 0, long(65)) }, api.ErrMany},
		{func(c *api.Cluster) { c.Nodes[2] = of(-1, 0, "") }, api.ErrRange},
		{func(c *api.Cluster) { c.Asks = make([]api.Ask, 32) }, api.ErrMany},
		{func(c *api.Cluster) { c.Terms = []api.Term{{Begin: 1}, {Begin: 2, End: 20}} }, api.ErrForm},
		{func(c *api.Cluster) { c.Terms = append(c.Terms, api.Term{Begin: 1}) }, api.ErrForm},
		{func(c *api.Cluster) { c.Asks[0].Op = 1 }, api.ErrForm},
		{func(c *api.Cluster) { c.Asks[0].Op = -1 }, api.ErrForm},
		{func(c *api.Cluster) { c.Asks[0].Phase = 4 }, api.ErrKind},
		{func(c *api.Cluster) { c.Asks[0].Data = "x" }, api.ErrForm},
		{func(c *api.Cluster) { c.Asks[0].Heard = 8 }, api.ErrRange},
		{term(0, api.Term{Begin: 0}), api.ErrState},
		{term(0, api.Term{Begin: -1}), api.ErrState},
		{term(0, api.Term{Begin: 41}), api.ErrState},
		{term(0, api.Term{Begin: 1, End: 1}), api.ErrState},
		{term(0, api.Term{Begin: 1, End: -1}), api.ErrState},
		{term(0, api.Term{Begin: 1, End: 40}), api.ErrState},
		{func(c *api.Cluster) { c.Asks[1].Op = 2 }, api.ErrForm},
		{func(c *api.Cluster) { c.Asks[1].Kind = 3 }, api.ErrKind},
		{func(c *api.Cluster) { c.Asks[1].Data = long(65) }, api.ErrMany},
		{func(c *api.Cluster) { c.Asks[1].Best = of(0, 0, long(65)) }, api.ErrMany},
		{term(1, api.Term{Begin: 2}), api.ErrState},
		{term(1, api.Term{Begin: 2, End: 1}), api.ErrState},
		{term(1, api.Term{Begin: 0, End: 1}), api.ErrState},
		{term(1, api.Term{Begin: 2, End: 41}), api.ErrState},
		{term(1, api.Term{Begin: 41, End: 41}), api.ErrState},
		{term(1, api.Term{Begin: 2, End: -1}), api.ErrState},
		{term(2, api.Term{Begin: 3, End: 4}), api.ErrState},
		{func(c *api.Cluster) { c.Net = make([]api.Msg, 201) }, api.ErrMany},
		{msg(0, api.Msg{Kind: 5}), api.ErrKind},
		{msg(0, api.Msg{Kind: 2, Op: 31, Node: 12}), api.ErrRange},
		{msg(0, api.Msg{Kind: 2, Op: 2, Node: 3, Copy: of(0, 0, long(65))}), api.ErrMany},
		{msg(0, api.Msg{Kind: 2, Op: 2, Node: 3}), api.ErrRange},
		{msg(0, api.Msg{Kind: 2, Op: 3, Node: 2}), api.ErrRange},
		{msg(1, api.Msg{Kind: 1, Op: 3, Copy: of(1, 0, "")}), api.ErrForm},
		{msg(1, api.Msg{Kind: 1, Op: 30, Node: 2}), api.ErrRange},
		{msg(3, api.Msg{Kind: 4, Op: 2, Node: 11}), api.ErrRange},
	}
}

// M1, M2, M3, P1: each fault tells, and of two the one that M1 names first; to the other calls too, whatever they are to do, and with nothing beside it.
func TestWrongClusters(t *testing.T) {
	all := faults()
	for i, first := range all {
		for _, second := range all[i:] {
			c := busy()
			second.spoil(&c)
			first.spoil(&c)
			if e := Check(c); e != first.want {
				t.Errorf("Check(%v) = %d, want %d", c, e, first.want)
			}
			for _, s := range []api.Step{{Kind: api.StepRead}, {Kind: api.StepPass}, {Kind: 9, N: -1, Data: "x"}} {
				fails(t, c, s, first.want)
			}
			if now, done, e := Run(c, make([]api.Step, 201)); e != first.want || done != 0 || !same(now, api.Cluster{}) {
				t.Errorf("Run of %v: %v, %d, %d, want %d", c, now, done, e, first.want)
			}
		}
	}
}

// M1: the clock comes behind all else: a term that is of no such clock tells first.
func TestWrongClocks(t *testing.T) {
	idle := api.Cluster{Voters: alike(1), Nodes: []api.Copy{{}}}
	for _, c := range []struct {
		clock      int
		idle, busy api.Errno
	}{{-1, api.ErrRange, api.ErrState}, {math.MinInt, api.ErrRange, api.ErrState}, {0, api.OK, api.ErrState}, {19, api.OK, api.ErrState}, {20, api.OK, api.OK}, {api.MaxClock, api.OK, api.OK}, {api.MaxClock + 1, api.ErrRange, api.ErrRange}, {math.MaxInt, api.ErrRange, api.ErrRange}} {
		one, other := idle, busy()
		one.Clock, other.Clock = c.clock, c.clock
		if e, f := Check(one), Check(other); e != c.idle || f != c.busy {
			t.Errorf("clock %d: %d, %d, want %d, %d", c.clock, e, f, c.idle, c.busy)
		}
	}
	for _, f := range faults() {
		c := busy()
		c.Clock = api.MaxClock + 1
		f.spoil(&c)
		if e := Check(c); e != f.want && f.want != api.ErrState {
			t.Errorf("Check(%v) = %d, want %d", c, e, f.want)
		}
	}
}

// M2: a run that was reckoned by hand: a write and a read of three nodes, each step with all that it leaves.
func TestDoByHand(t *testing.T) {
	c := fresh(t, alike(3))
	a := api.Ask{Op: 0, Kind: api.AskWrite, Phase: api.PhaseQuery, Data: "a"}
	b := api.Ask{Op: 1, Kind: api.AskRead, Phase: api.PhaseQuery}
	want := twin(c)
	step := func(s api.Step, change func()) {
		t.Helper()
		was := twin(c)
		next := do(t, c, s)
		if !same(c, was) {
			t.Fatalf("%v: there was %v, there is %v", s, was, c)
		}
		want.Clock++
		change()
		if c = next; !same(c, want) {
			t.Fatalf("%v of %v makes\n%v, want\n%v", s, was, c, want)
		}
	}
	answer := func(op, node int, has api.Copy) api.Msg {
		return api.Msg{Kind: api.MsgAnswer, Op: op, Node: node, Copy: has}
	}
	done := func(op, node int) api.Msg { return api.Msg{Kind: api.MsgDone, Op: op, Node: node} }
	at := of(1, 0, "a")
	put := puts(0, 3, at)
	step(api.Step{Kind: api.StepWrite, Data: "a"}, func() {
		want.Asks, want.Terms, want.Net = []api.Ask{a}, []api.Term{{Begin: 1}}, queries(0, 3)
	})
	step(api.Step{Kind: api.StepPass, N: 1}, func() {
		want.Net = []api.Msg{queries(0, 3)[0], queries(0, 3)[2], answer(0, 1, api.Copy{})}
	})
	step(api.Step{Kind: api.StepTwice, N: 2}, func() {
		want.Net = append(want.Net, answer(0, 1, api.Copy{}))
	})
	step(api.Step{Kind: api.StepPass, N: 3}, func() {
		want.Net = want.Net[:3]
		want.Asks[0].Heard = 2
	})
	step(api.Step{Kind: api.StepPass, N: 2}, func() { // it comes once more, and changes nothing
		want.Net = want.Net[:2]
	})
	step(api.Step{Kind: api.StepLose, N: 1}, func() {
		want.Net = want.Net[:1]
	})
	step(api.Step{Kind: api.StepRead}, func() {
		want.Asks, want.Terms = append(want.Asks, b), append(want.Terms, api.Term{Begin: 7})
		want.Net = append(want.Net, queries(1, 3)...)
	})
	step(api.Step{Kind: api.StepPass}, func() {
		want.Net = append(queries(1, 3), answer(0, 0, api.Copy{}))
	})
	step(api.Step{Kind: api.StepPass, N: 3}, func() { // enough were heard: it puts
		want.Asks[0].Phase, want.Asks[0].Heard, want.Asks[0].Best = api.PhasePut, 0, at
		want.Net = append(queries(1, 3), put...)
	})
	step(api.Step{Kind: api.StepPass, N: 5}, func() {
		want.Nodes[2] = at
		want.Net = append(queries(1, 3), put[0], put[1], done(0, 2))
	})
	step(api.Step{Kind: api.StepPass, N: 2}, func() {
		want.Net = append(queries(1, 2), put[0], put[1], done(0, 2), answer(1, 2, at))
	})
	step(api.Step{Kind: api.StepPass, N: 3}, func() {
		want.Nodes[1] = at
		want.Net = append(queries(1, 2), put[0], done(0, 2), answer(1, 2, at), done(0, 1))
	})
	step(api.Step{Kind: api.StepTwice, N: 5}, func() {
		want.Net = append(want.Net, done(0, 1))
	})
	step(api.Step{Kind: api.StepPass, N: 3}, func() {
		want.Asks[0].Heard = 4
		want.Net = append(queries(1, 2), put[0], answer(1, 2, at), done(0, 1), done(0, 1))
	})
	step(api.Step{Kind: api.StepPass, N: 4}, func() { // it is done, and ends
		want.Asks[0].Heard, want.Asks[0].Phase = 6, api.PhaseDone
		want.Terms[0].End = 15
		want.Net = want.Net[:5]
	})
	step(api.Step{Kind: api.StepPass, N: 4}, func() { // what comes behind its end changes nothing
		want.Net = want.Net[:4]
	})
	step(api.Step{Kind: api.StepPass, N: 3}, func() {
		want.Asks[1].Best, want.Asks[1].Heard = at, 4
		want.Net = want.Net[:3]
	})
}

// M2: an operation that is done keeps the step at which it ended, whatever comes for it.
func TestEndStays(t *testing.T) {
	for kind := api.MsgQuery; kind <= api.MsgDone; kind++ {
		c := busy()
		c.Net = []api.Msg{{Kind: kind, Op: 1, Node: 2}}
		if next := do(t, c, api.Step{Kind: api.StepPass}); next.Terms[1] != c.Terms[1] || next.Asks[1] != c.Asks[1] {
			t.Errorf("%v: %v", c.Net, next)
		}
	}
}

// M2: one node, whose only voice is enough: the fewest steps to the end.
func TestOneNode(t *testing.T) {
	c := fresh(t, alike(1))
	for round := range 15 {
		c = do(t, c, api.Step{Kind: api.StepWrite, Data: long(round)})
		for range 4 {
			c = do(t, c, api.Step{Kind: api.StepPass})
		}
		c = do(t, c, api.Step{Kind: api.StepRead})
		for range 4 {
			c = do(t, c, api.Step{Kind: api.StepPass})
		}
		has := of(round+1, 2*round, long(round))
		if len(c.Net) != 0 || c.Nodes[0] != has || c.Asks[2*round+1].Best != has || c.Terms[2*round] != (api.Term{Begin: 10*round + 1, End: 10*round + 5}) || c.Terms[2*round+1] != (api.Term{Begin: 10*round + 6, End: 10*round + 10}) {
			t.Fatalf("round %d: %v", round, c)
		}
	}
}

// M2: no time is left for a write: its message goes, and nothing else changes.
func TestNoTimeLeft(t *testing.T) {
	c := fresh(t, alike(1))
	c.Nodes[0] = of(api.MaxTime, 3, "last")
	c = do(t, c, api.Step{Kind: api.StepWrite, Data: "x"})
	c = do(t, c, api.Step{Kind: api.StepPass})
	want := twin(c)
	want.Net, want.Clock = nil, want.Clock+1
	if next := do(t, c, api.Step{Kind: api.StepPass}); !same(next, want) {
		t.Errorf("%v, want %v", next, want)
	}
}

// M2: steps of each form that is none.
func TestWrongSteps(t *testing.T) {
	c := busy()
	for _, s := range []struct {
		s    api.Step
		want api.Errno
	}{
		{api.Step{}, api.ErrKind},
		{api.Step{Kind: -1, N: -1, Data: "x"}, api.ErrKind},
		{api.Step{Kind: api.StepBid}, api.ErrKind},
		{api.Step{Kind: math.MaxInt, Data: "x"}, api.ErrKind},
		{api.Step{Kind: api.StepRead, N: 1}, api.ErrForm},
		{api.Step{Kind: api.StepRead, N: -1}, api.ErrForm},
		{api.Step{Kind: api.StepRead, Data: "x"}, api.ErrForm},
		{api.Step{Kind: api.StepWrite, N: 1}, api.ErrForm},
		{api.Step{Kind: api.StepWrite, N: -1, Data: long(65)}, api.ErrForm},
		{api.Step{Kind: api.StepPass, Data: "x"}, api.ErrForm},
		{api.Step{Kind: api.StepPass, N: 99, Data: "x"}, api.ErrForm},
		{api.Step{Kind: api.StepLose, Data: "\x00"}, api.ErrForm},
		{api.Step{Kind: api.StepTwice, N: -1, Data: "x"}, api.ErrForm},
		{api.Step{Kind: api.StepWrite, Data: long(65)}, api.ErrMany},
		{api.Step{Kind: api.StepPass, N: -1}, api.ErrRange},
		{api.Step{Kind: api.StepPass, N: 4}, api.ErrRange},
		{api.Step{Kind: api.StepPass, N: math.MaxInt}, api.ErrRange},
		{api.Step{Kind: api.StepLose, N: 4}, api.ErrRange},
		{api.Step{Kind: api.StepLose, N: math.MinInt}, api.ErrRange},
		{api.Step{Kind: api.StepTwice, N: 4}, api.ErrRange},
		{api.Step{Kind: api.StepTwice, N: -1}, api.ErrRange},
	} {
		fails(t, c, s.s, s.want)
		c.Clock = api.MaxClock
		fails(t, c, s.s, api.ErrMany)
		c.Clock = 40
	}
	do(t, c, api.Step{Kind: api.StepWrite, Data: long(64)})
	do(t, c, api.Step{Kind: api.StepWrite})
	for n := range 4 {
		do(t, c, api.Step{Kind: api.StepPass, N: n})
		do(t, c, api.Step{Kind: api.StepLose, N: n})
		do(t, c, api.Step{Kind: api.StepTwice, N: n})
	}
}

// M2: the last step that the clock lets, and none behind it.
func TestLastStep(t *testing.T) {
	for _, s := range []api.Step{{Kind: api.StepRead}, {Kind: api.StepWrite, Data: "x"}, {Kind: api.StepPass}, {Kind: api.StepLose}, {Kind: api.StepTwice}} {
		c := busy()
		c.Clock = api.MaxClock - 1
		next := do(t, c, s)
		if next.Clock != api.MaxClock {
			t.Errorf("%v: %d", s, next.Clock)
		}
		fails(t, next, s, api.ErrMany)
		fails(t, next, api.Step{Kind: 9}, api.ErrMany)
	}
}

// M2: no more than MaxOps operations; a form that is wrong tells first, and messages step on.
func TestMostOperations(t *testing.T) {
	c := fresh(t, alike(1))
	for op := range api.MaxOps {
		c = do(t, c, api.Step{Kind: 1 + op%2})
	}
	for _, kind := range []int{api.StepRead, api.StepWrite} {
		fails(t, c, api.Step{Kind: kind}, api.ErrMany)
		fails(t, c, api.Step{Kind: kind, N: 1}, api.ErrForm)
	}
	fails(t, c, api.Step{Kind: api.StepPass, N: 31}, api.ErrRange)
	if next := do(t, c, api.Step{Kind: api.StepPass, N: 30}); len(next.Net) != 31 {
		t.Errorf("%v", next.Net)
	}
}

// crowd: three nodes, an operation that waits for its last answer, which is the first of so many messages.
func crowd(messages int) api.Cluster {
	c := api.Cluster{Voters: alike(3), Nodes: make([]api.Copy, 3), Clock: 9}
	c.Asks = []api.Ask{{Kind: api.AskWrite, Phase: api.PhaseQuery, Data: "a", Heard: 1}}
	c.Terms = []api.Term{{Begin: 1}}
	c.Net = append(c.Net, api.Msg{Kind: api.MsgAnswer, Node: 2}, api.Msg{Kind: api.MsgAnswer, Node: 0})
	for len(c.Net) < messages {
		c.Net = append(c.Net, api.Msg{Kind: api.MsgQuery, Node: len(c.Net) % 3})
	}
	return c
}

// M2: no more than MaxNet messages: those that a step takes away count no longer, those that it sends do.
func TestMostMessages(t *testing.T) {
	for messages := 190; messages <= 200; messages++ {
		c := crowd(messages)
		for _, s := range []struct {
			s    api.Step
			more int
		}{
			{api.Step{Kind: api.StepRead}, 3},
			{api.Step{Kind: api.StepWrite, Data: "x"}, 3},
			{api.Step{Kind: api.StepPass}, 2},
			{api.Step{Kind: api.StepPass, N: 1}, -1},
			{api.Step{Kind: api.StepPass, N: 2}, 0},
			{api.Step{Kind: api.StepPass, N: messages - 1}, 0},
			{api.Step{Kind: api.StepLose, N: messages - 1}, -1},
			{api.Step{Kind: api.StepTwice, N: messages - 1}, 1},
			{api.Step{Kind: api.StepTwice}, 1},
		} {
			if messages+s.more > 200 {
				fails(t, c, s.s, api.ErrMany)
			} else if next := do(t, c, s.s); len(next.Net) != messages+s.more {
				t.Errorf("%v of %d: %d", s.s, messages, len(next.Net))
			}
		}
		fails(t, c, api.Step{Kind: api.StepTwice, N: messages}, api.ErrRange)
	}
}

// anyStep: mostly one that can be done, now and then one that can't.
func anyStep(d *draw, c api.Cluster) api.Step {
	switch d.below(16) {
	case 0:
		return api.Step{Kind: api.StepRead}
	case 1:
		return api.Step{Kind: api.StepWrite, Data: string(rune('a' + len(c.Asks)))}
	case 2:
		return api.Step{Kind: d.below(8), N: d.below(4), Data: []string{"", "x", long(65)}[d.below(3)]}
	case 3:
		return api.Step{Kind: api.StepLose, N: d.below(len(c.Net) + 1)}
	case 4:
		return api.Step{Kind: api.StepTwice, N: d.below(len(c.Net) + 1)}
	}
	return api.Step{Kind: api.StepPass, N: d.below(len(c.Net) + 1)}
}

// M3: Run is Do of one step behind the other, without those that have an error, of which there are some.
func TestRun(t *testing.T) {
	d := draw(3)
	wrong := 0
	for round := range 120 {
		first := fresh(t, some()[round%len(some())])
		c := first
		var steps []api.Step
		good := 0
		for range round * 200 / 119 {
			s := anyStep(&d, c)
			steps = append(steps, s)
			if next, e := Do(c, s); e == api.OK {
				c = next
				good++
			}
		}
		wrong += len(steps) - good
		if now, done, e := Run(first, steps); !same(now, c) || done != good || e != api.OK {
			t.Fatalf("Run of %v: %v, %d, %d, want %v, %d", steps, now, done, e, c, good)
		}
	}
	if wrong < 100 {
		t.Errorf("only %d had an error", wrong)
	}
}

// M3: as many steps as may be, and one more; steps that are wrong count too.
func TestMostSteps(t *testing.T) {
	for _, c := range []api.Cluster{fresh(t, alike(3)), busy(), full()} {
		for _, many := range []int{0, 1, 200} {
			if now, done, e := Run(c, make([]api.Step, many)); !same(now, c) || done != 0 || e != api.OK {
				t.Errorf("%d steps: %v, %d, %d", many, now, done, e)
			}
		}
		for _, many := range []int{201, 1000} {
			if now, done, e := Run(c, make([]api.Step, many)); !same(now, api.Cluster{}) || done != 0 || e != api.ErrMany {
				t.Errorf("%d steps: %v, %d, %d", many, now, done, e)
			}
		}
	}
	c := fresh(t, alike(1))
	c.Clock = api.MaxClock - 3
	if now, done, e := Run(c, slices.Repeat([]api.Step{{Kind: api.StepRead}}, 5)); now.Clock != api.MaxClock || len(now.Asks) != 3 || done != 3 || e != api.OK {
		t.Errorf("%v, %d, %d", now, done, e)
	}
}

// knows: an operation knows what it puts, or has put.
func knows(a api.Ask) bool { return a.Phase != api.PhaseQuery }

// less: is the first stamp below the second one?
func less(a, b api.Stamp) bool { return a.Time < b.Time || a.Time == b.Time && a.Who < b.Who }

// linear: what M4 says of a cluster that was New.
func linear(t *testing.T, c api.Cluster) {
	t.Helper()
	written := map[api.Copy]int{{}: 0}
	stamps := map[api.Stamp]int{}
	for _, a := range c.Asks {
		if a.Kind == api.AskWrite && knows(a) {
			if other, is := stamps[a.Best.At]; is || a.Best.Data != a.Data || a.Best.At == (api.Stamp{}) {
				t.Fatalf("%v writes %v, as %d did", a, a.Best, other)
			}
			stamps[a.Best.At] = a.Op
			written[a.Best] = a.Op
		}
	}
	for i, a := range c.Asks {
		if _, is := written[a.Best]; !is {
			t.Fatalf("%v knows what nobody wrote: %v", a, c)
		}
		for j, b := range c.Asks {
			if end := c.Terms[i].End; end == 0 || end >= c.Terms[j].Begin || !knows(b) {
				continue
			}
			if less(b.Best.At, a.Best.At) || b.Kind == api.AskWrite && b.Best.At == a.Best.At {
				t.Fatalf("%v is done ahead of %v", a, b)
			}
		}
	}
}

// M4: whatever is lost, comes twice or out of turn.
func TestLinearizable(t *testing.T) {
	d := draw(4)
	ends, pairs := 0, 0
	for round := range 200 {
		c := fresh(t, some()[round%len(some())])
		for range 500 {
			if next, e := Do(c, anyStep(&d, c)); e == api.OK {
				c = next
			}
		}
		if e := Check(c); e != api.OK {
			t.Fatalf("Check(%v) = %d", c, e)
		}
		linear(t, c)
		for i, a := range c.Terms {
			if a.End > 0 {
				ends++
			}
			for j, b := range c.Terms {
				if a.End > 0 && a.End < b.Begin && knows(c.Asks[j]) && c.Asks[i].Best.At != (api.Stamp{}) {
					pairs++
				}
			}
		}
	}
	if ends < 500 || pairs < 500 {
		t.Errorf("only %d were done, %d behind one another", ends, pairs)
	}
}

// M2, M4: an operation is done only by what was sent for it, and ends at the step at which it is done.
func TestTerms(t *testing.T) {
	d := draw(5)
	for round := range 40 {
		c := fresh(t, some()[round%len(some())])
		for range 300 {
			next, e := Do(c, anyStep(&d, c))
			if e != api.OK {
				continue
			}
			if next.Clock != c.Clock+1 {
				t.Fatalf("%d behind %d", next.Clock, c.Clock)
			}
			for op, a := range next.Asks {
				want := api.Term{Begin: next.Clock}
				if op < len(c.Asks) {
					want = c.Terms[op]
					if a.Phase == api.PhaseDone && c.Asks[op].Phase != api.PhaseDone {
						want.End = next.Clock
					}
				}
				if next.Terms[op] != want {
					t.Fatalf("%v: %v, want %v", a, next.Terms[op], want)
				}
			}
			c = next
		}
	}
}

// roomy: the busy cluster, each list with room behind it in which something stands.
func roomy() (api.Cluster, func() bool) {
	c := busy()
	c.Voters.Weights = append(c.Voters.Weights, 77, -8)
	c.Nodes = append(c.Nodes, of(7, 7, "n"), of(8, 8, "n"))
	c.Asks = append(c.Asks, api.Ask{Op: 77}, api.Ask{Op: 88})
	c.Terms = append(c.Terms, api.Term{Begin: 77}, api.Term{Begin: 88})
	c.Net = append(c.Net, slices.Repeat([]api.Msg{{Kind: 77}}, 9)...)
	whole, was := c, twin(c)
	c.Voters.Weights, c.Nodes, c.Asks, c.Terms, c.Net = c.Voters.Weights[:3], c.Nodes[:3], c.Asks[:3], c.Terms[:3], c.Net[:4]
	return c, func() bool { return same(whole, was) }
}

// clears all that a cluster has.
func clears(c api.Cluster) {
	clear(c.Voters.Weights[:cap(c.Voters.Weights)])
	clear(c.Nodes[:cap(c.Nodes)])
	clear(c.Asks[:cap(c.Asks)])
	clear(c.Terms[:cap(c.Terms)])
	clear(c.Net[:cap(c.Net)])
}

// P2: what is handed in is only read, the room behind it too; an answer is new memory, and does not change with what was handed in.
func TestInputsAreOnlyRead(t *testing.T) {
	steps := []api.Step{{Kind: api.StepRead}, {Kind: api.StepWrite, Data: "x"}, {Kind: api.StepPass}, {Kind: api.StepPass, N: 1}, {Kind: api.StepPass, N: 3}, {Kind: api.StepLose}, {Kind: api.StepTwice}, {Kind: 9}}
	for _, s := range steps {
		for _, call := range []func(api.Cluster) api.Cluster{
			func(c api.Cluster) api.Cluster { next, _ := Do(c, s); return next },
			func(c api.Cluster) api.Cluster { next, _, _ := Run(c, []api.Step{s, s}); return next },
			func(c api.Cluster) api.Cluster { next, _, _ := Run(c, nil); return next },
		} {
			c, stays := roomy()
			next := call(c)
			if !stays() {
				t.Fatalf("%v changed what it was handed: %v", s, c)
			}
			was := twin(next)
			clears(c)
			if !same(next, was) {
				t.Errorf("%v: what it answered changed: %v", s, next)
			}
			c, stays = roomy()
			clears(call(c))
			if !stays() {
				t.Errorf("%v: what it was handed changed with the answer: %v", s, c)
			}
		}
	}
}

// P2: so are the voters of New.
func TestVotersAreOnlyRead(t *testing.T) {
	room := []int{1, 1, 1, 77, -8}
	c := fresh(t, api.Voters{Weights: room[:3], Need: 2})
	clears(c)
	if !slices.Equal(room, []int{1, 1, 1, 77, -8}) {
		t.Errorf("it is %v", room)
	}
	c = fresh(t, api.Voters{Weights: room[:3], Need: 2})
	clear(room)
	if !slices.Equal(c.Voters.Weights, []int{1, 1, 1}) {
		t.Errorf("it is %v", c.Voters)
	}
}

// P2: Run only reads its steps.
func TestStepsAreOnlyRead(t *testing.T) {
	steps := []api.Step{{Kind: api.StepWrite, Data: "x"}, {Kind: api.StepPass}, {Kind: 9, N: 9, Data: "y"}}
	was := slices.Clone(steps)
	Run(busy(), steps[:2])
	if !slices.Equal(steps, was) {
		t.Errorf("they are %v", steps)
	}
}

// P3: calls between change no answer.
func TestAnswersStay(t *testing.T) {
	s := api.Step{Kind: api.StepPass}
	first := do(t, busy(), s)
	was := twin(first)
	clears(first)
	do(t, early(), api.Step{Kind: api.StepLose})
	Do(api.Cluster{}, s)
	if again := do(t, busy(), s); !same(again, was) {
		t.Errorf("first %v, then %v", was, again)
	}
}

// early: the full cluster, early.
func early() api.Cluster {
	c := full()
	c.Clock = 1
	for op := range c.Terms {
		c.Terms[op] = api.Term{Begin: 1, End: 1}
	}
	return c
}

// P1: no call panics, whatever it is handed; with an error the rest is empty, and without one there is a cluster.
func TestNoPanic(t *testing.T) {
	d := draw(6)
	odd := func() int {
		if d.below(8) > 0 {
			return d.below(4)
		}
		return []int{math.MinInt, -1, 12, 31, 64, 1000001, math.MaxInt}[d.below(7)]
	}
	text := func() string { return []string{"", "", "x", long(64), long(65)}[d.below(5)] }
	good := 0
	for range 20000 {
		c := busy()
		switch d.below(6) {
		case 0:
			c.Voters = api.Voters{Weights: []int{odd(), odd(), odd()}, Need: odd()}
		case 1:
			c.Nodes[d.below(3)] = of(odd(), odd(), text())
		case 2:
			c.Asks[d.below(3)] = api.Ask{Op: odd(), Kind: odd(), Phase: odd(), Data: text(), Best: of(odd(), odd(), text()), Heard: uint64(1)<<d.below(64) - 1}
		case 3:
			c.Terms[d.below(3)] = api.Term{Begin: odd(), End: odd()}
		case 4:
			c.Net[d.below(4)] = api.Msg{Kind: odd(), Op: odd(), Node: odd(), Copy: of(odd(), odd(), text())}
		default:
			c.Clock = odd() * 10
		}
		s := api.Step{Kind: odd() + d.below(3), N: odd(), Data: text()}
		next, e := Do(c, s)
		now, done, f := Run(c, []api.Step{s, {Kind: api.StepPass, N: odd()}, s})
		if e != api.OK && !same(next, api.Cluster{}) || f != api.OK && (done != 0 || !same(now, api.Cluster{})) {
			t.Fatalf("%v, %v: %v, %d; %v, %d, %d", c, s, next, e, now, done, f)
		}
		if e == api.OK && Check(next) != api.OK || f == api.OK && Check(now) != api.OK {
			t.Fatalf("%v, %v: %v; %v", c, s, next, now)
		}
		if e == api.OK {
			good++
		}
	}
	if good < 500 {
		t.Errorf("only %d were good", good)
	}
}
