package synod

import (
	"math"
	"slices"
	"strings"
	"testing"

	"supercargo/api"
)

// draw gives the same numbers each time.
type draw uint64

func (d *draw) below(n int) int {
	*d = *d*6364136223846793005 + 1442695040888963407
	return int(uint64(*d) >> 33 % uint64(n))
}

func at(time, who int) api.Stamp { return api.Stamp{Time: time, Who: who} }

func of(time, who int, data string) api.Copy { return api.Copy{At: at(time, who), Data: data} }

// long: so many bytes.
func long(bytes int) string { return strings.Repeat("z", bytes) }

// alike: so many nodes of weight 1, of which more than half are needed.
func alike(nodes int) api.Voters {
	return api.Voters{Weights: slices.Repeat([]int{1}, nodes), Need: nodes/2 + 1}
}

// some voters that are good.
func some() []api.Voters {
	return []api.Voters{alike(1), alike(2), alike(3), alike(5), alike(12), {Weights: []int{3, 1, 0}, Need: 3}, {Weights: []int{0, 2, 2, 1}, Need: 4}, {Weights: []int{100, 0}, Need: 51}}
}

// badVoters: each kind of fault of them.
func badVoters() map[api.Errno][]api.Voters {
	return map[api.Errno][]api.Voters{
		api.ErrFew:   {{}, {Need: 1}},
		api.ErrMany:  {alike(13)},
		api.ErrRange: {{Weights: []int{1, -1, 1}, Need: 2}, {Weights: []int{101}, Need: 101}, {Weights: []int{1, 1}, Need: 3}, {Weights: []int{1, 1}}},
		api.ErrState: {{Weights: []int{1, 1}, Need: 1}},
	}
}

// same: are two synods alike in all that they have?
func same(a, b api.Synod) bool {
	return slices.Equal(a.Voters.Weights, b.Voters.Weights) && a.Voters.Need == b.Voters.Need && slices.Equal(a.Seats, b.Seats) && slices.Equal(a.Bids, b.Bids) && slices.Equal(a.Votes, b.Votes)
}

// twin of a synod, that shares nothing with it.
func twin(s api.Synod) api.Synod {
	s.Voters.Weights = slices.Clone(s.Voters.Weights)
	s.Seats, s.Bids, s.Votes = slices.Clone(s.Seats), slices.Clone(s.Bids), slices.Clone(s.Votes)
	return s
}

// fresh: New without an error.
func fresh(t *testing.T, v api.Voters) api.Synod {
	t.Helper()
	s, e := New(v)
	if e != api.OK {
		t.Fatalf("New(%v): %d", v, e)
	}
	return s
}

// do a step without an error; what it makes must be a synod, and what it was handed stays.
func do(t *testing.T, s api.Synod, x api.Step) api.Synod {
	t.Helper()
	was := twin(s)
	next, e := Do(s, x)
	if e != api.OK {
		t.Fatalf("%v of %v: %d", x, s, e)
	}
	if e := Check(next); e != api.OK {
		t.Fatalf("%v of %v makes %v: %d", x, s, next, e)
	}
	if !same(s, was) {
		t.Fatalf("%v: there was %v, there is %v", x, was, s)
	}
	return next
}

// fails: Do answers that error, and nothing beside it.
func fails(t *testing.T, s api.Synod, x api.Step, want api.Errno) {
	t.Helper()
	was := twin(s)
	if next, e := Do(s, x); e != want || !same(next, api.Synod{}) {
		t.Errorf("%v of %v: %v, %d, want %d", x, s, next, e, want)
	}
	if !same(s, was) {
		t.Errorf("%v: there was %v, there is %v", x, was, s)
	}
}

// bid, pass, lose and twice: the steps.
func bid(time int, would string) api.Step {
	return api.Step{Kind: api.StepBid, N: time, Data: would}
}
func pass(n int) api.Step  { return api.Step{Kind: api.StepPass, N: n} }
func lose(n int) api.Step  { return api.Step{Kind: api.StepLose, N: n} }
func twice(n int) api.Step { return api.Step{Kind: api.StepTwice, N: n} }

// votes about a bid, one for each of so many nodes.
func votes(kind, no, nodes int, c api.Copy) []api.Vote {
	var all []api.Vote
	for node := range nodes {
		all = append(all, api.Vote{Kind: kind, Bid: no, Node: node, Copy: c})
	}
	return all
}

// O1: as many seats as weights, each the zero seat, and nothing else.
func TestNew(t *testing.T) {
	for _, v := range some() {
		s, e := New(v)
		if want := (api.Synod{Voters: v, Seats: make([]api.Seat, len(v.Weights))}); !same(s, want) || e != api.OK {
			t.Errorf("New(%v) = %v, %d", v, s, e)
		}
		if e := Check(s); e != api.OK {
			t.Errorf("Check(%v) = %d", s, e)
		}
	}
}

// O1, P1: errors of the voters, of all calls, whatever else is wrong, and nothing beside them.
func TestWrongVoters(t *testing.T) {
	for want, all := range badVoters() {
		for _, v := range all {
			if s, e := New(v); e != want || !same(s, api.Synod{}) {
				t.Errorf("New(%v) = %v, %d, want %d", v, s, e, want)
			}
			for _, s := range []api.Synod{{}, {Seats: make([]api.Seat, len(v.Weights))}, {Seats: []api.Seat{{Promised: at(-1, 0)}}, Votes: make([]api.Vote, 201)}} {
				s.Voters = v
				if e := Check(s); e != want {
					t.Errorf("Check(%v) = %d, want %d", s, e, want)
				}
				fails(t, s, bid(1, ""), want)
				fails(t, s, api.Step{}, want)
				if now, done, e := Run(s, make([]api.Step, 201)); e != want || done != 0 || !same(now, api.Synod{}) {
					t.Errorf("Run of %v: %v, %d, %d, want %d", s, now, done, e, want)
				}
			}
		}
	}
}

// busy: a synod in which there is something of everything: a bid that asks, one that is done, one that puts.
func busy() api.Synod {
	return api.Synod{
		Voters: alike(3),
		Seats:  []api.Seat{{Promised: at(5, 1), Kept: of(5, 1, "b")}, {Promised: at(7, 2), Kept: of(5, 1, "b")}, {}},
		Bids: []api.Bid{
			{Time: 3, Phase: api.PhaseQuery, Own: "a", Heard: 4},
			{Time: 5, Phase: api.PhaseDone, Own: "b", Value: "b", Heard: 3},
			{Time: 7, Phase: api.PhasePut, Own: "c", Value: "b", Best: of(5, 1, "b")},
		},
		Votes: []api.Vote{
			{Kind: api.VotePromise, Bid: 0, Node: 0},
			{Kind: api.VoteAccept, Bid: 2, Node: 2, Copy: of(7, 2, "b")},
			{Kind: api.VotePrepare, Bid: 1, Node: 2, Copy: of(5, 1, "")},
			{Kind: api.VoteKept, Bid: 2, Node: 1, Copy: of(7, 2, "")},
		},
	}
}

// full: a synod at all of its limits.
func full() api.Synod {
	last := of(api.MaxTime, 31, long(64))
	return api.Synod{
		Voters: alike(12),
		Seats:  slices.Repeat([]api.Seat{{Promised: last.At, Kept: last}}, 12),
		Bids:   slices.Repeat([]api.Bid{{Time: api.MaxTime, Phase: api.PhaseDone, Own: long(64), Value: long(64), Best: last, Heard: 1<<12 - 1}}, 31),
		Votes:  slices.Repeat([]api.Vote{{Kind: api.VoteAccept, Bid: 30, Node: 11, Copy: last}}, 200),
	}
}

// O1: what is good, at the limits.
func TestCheckOfGoodSynods(t *testing.T) {
	for i, s := range []api.Synod{
		busy(),
		full(),
		{Voters: alike(1), Seats: []api.Seat{{}}},
		{Voters: alike(1), Seats: []api.Seat{{Promised: at(9, 9), Kept: of(9, 9, "x")}}, Bids: []api.Bid{{Time: 1, Phase: 1}}},
		{Voters: alike(1), Seats: []api.Seat{{Kept: of(0, 0, "x")}}, Bids: []api.Bid{{Time: 4, Phase: 3}, {Time: 4, Phase: 2}}, Votes: []api.Vote{{Kind: 4, Bid: 1, Copy: of(9, 9, "")}}},
	} {
		if e := Check(s); e != api.OK {
			t.Errorf("%d: Check(%v) = %d", i, s, e)
		}
	}
}

// fault: what spoils a synod, and what Check answers then.
type fault struct {
	spoil func(*api.Synod)
	want  api.Errno
}

// faults of the busy synod, in the order in which O1 names them.
func faults() []fault {
	seat := func(n int, x api.Seat) func(*api.Synod) { return func(s *api.Synod) { s.Seats[n] = x } }
	vote := func(n int, v api.Vote) func(*api.Synod) { return func(s *api.Synod) { s.Votes[n] = v } }
	return []fault{
		{func(s *api.Synod) { s.Voters.Need = 4 }, api.ErrRange},
		{func(s *api.Synod) { s.Voters.Need = 1 }, api.ErrState},
		{func(s *api.Synod) { s.Seats = make([]api.Seat, 2) }, api.ErrForm},
		{func(s *api.Synod) { s.Seats = append(s.Seats, api.Seat{}) }, api.ErrForm},
		{func(s *api.Synod) { s.Seats = nil }, api.ErrForm},
		{seat(0, api.Seat{Promised: at(0, 32), Kept: of(0, 0, long(65))}), api.ErrRange},
		{seat(0, api.Seat{Kept: of(0, 1, long(65))}), api.ErrMany},
		{seat(1, api.Seat{Kept: of(0, 1, "")}), api.ErrState},
		{seat(2, api.Seat{Promised: at(4, 3), Kept: of(4, 4, "")}), api.ErrState},
		{seat(2, api.Seat{Promised: at(api.MaxTime+1, 3)}), api.ErrRange},
		{func(s *api.Synod) { s.Bids = make([]api.Bid, 32) }, api.ErrMany},
		{func(s *api.Synod) { s.Bids[0].Time = 0 }, api.ErrRange},
		{func(s *api.Synod) { s.Bids[0].Phase = 4 }, api.ErrKind},
		{func(s *api.Synod) { s.Bids[0].Own = long(65) }, api.ErrMany},
		{func(s *api.Synod) { s.Bids[0].Best = of(0, 32, "") }, api.ErrRange},
		{func(s *api.Synod) { s.Bids[0].Heard = 8 }, api.ErrRange},
		{func(s *api.Synod) { s.Bids[1].Phase = 0 }, api.ErrKind},
		{func(s *api.Synod) { s.Bids[1].Value = long(65) }, api.ErrMany},
		{func(s *api.Synod) { s.Bids[2].Time = api.MaxTime + 1 }, api.ErrRange},
		{func(s *api.Synod) { s.Bids[2].Phase = -1 }, api.ErrKind},
		{func(s *api.Synod) { s.Votes = make([]api.Vote, 201) }, api.ErrMany},
		{vote(0, api.Vote{Kind: 5, Bid: 3}), api.ErrKind},
		{vote(0, api.Vote{Kind: 2, Bid: 31, Node: 12}), api.ErrRange},
		{vote(0, api.Vote{Kind: 2, Bid: 3, Node: 3, Copy: of(0, 0, long(65))}), api.ErrMany},
		{vote(0, api.Vote{Kind: 2, Bid: 2, Node: 3}), api.ErrRange},
		{vote(0, api.Vote{Kind: 2, Bid: 3, Node: 2}), api.ErrRange},
		{vote(1, api.Vote{Kind: 1, Bid: 3, Copy: of(1, 0, "x")}), api.ErrForm},
		{vote(1, api.Vote{Kind: 1, Bid: 30, Node: 2}), api.ErrRange},
		{vote(2, api.Vote{}), api.ErrKind},
		{vote(3, api.Vote{Kind: 4, Bid: 2, Node: 11}), api.ErrRange},
	}
}

// O1, O2, O3, P1: each fault tells, and of two the one that O1 names first; to the other calls too, whatever they are to do, and with nothing beside it.
func TestWrongSynods(t *testing.T) {
	all := faults()
	for i, first := range all {
		for _, second := range all[i:] {
			s := busy()
			second.spoil(&s)
			first.spoil(&s)
			if e := Check(s); e != first.want {
				t.Errorf("Check(%v) = %d, want %d", s, e, first.want)
			}
			for _, x := range []api.Step{bid(1, ""), pass(0), {Kind: 9, N: -1, Data: "x"}} {
				fails(t, s, x, first.want)
			}
			if now, done, e := Run(s, make([]api.Step, 201)); e != first.want || done != 0 || !same(now, api.Synod{}) {
				t.Errorf("Run of %v: %v, %d, %d, want %d", s, now, done, e, first.want)
			}
		}
	}
}

// O1: no bid, no vote: a synod without bids has no vote about one.
func TestVoteAboutNoBid(t *testing.T) {
	s := fresh(t, alike(3))
	s.Votes = []api.Vote{{Kind: 1}}
	if e := Check(s); e != api.ErrRange {
		t.Errorf("Check(%v) = %d", s, e)
	}
}

// hand: a synod that was reckoned by hand, step by step, beside the one that is stepped.
type hand struct {
	t       *testing.T
	s, want api.Synod
}

// step, with all that it changes.
func (h *hand) step(x api.Step, change func()) {
	h.t.Helper()
	was := h.s
	h.s = do(h.t, h.s, x)
	change()
	if !same(h.s, h.want) {
		h.t.Fatalf("%v of\n%v makes\n%v, want\n%v", x, was, h.s, h.want)
	}
}

// O2: a run that was reckoned by hand: a bid of three nodes, each step with all that it leaves.
func TestDoByHand(t *testing.T) {
	h := &hand{t, fresh(t, alike(3)), fresh(t, alike(3))}
	want := &h.want
	ask := votes(api.VotePrepare, 0, 3, of(4, 0, ""))
	promise := votes(api.VotePromise, 0, 3, api.Copy{})
	put := votes(api.VoteAccept, 0, 3, of(4, 0, "a"))
	kept := votes(api.VoteKept, 0, 3, of(4, 0, ""))
	h.step(bid(4, "a"), func() {
		want.Bids, want.Votes = []api.Bid{{Time: 4, Phase: api.PhaseQuery, Own: "a"}}, slices.Clone(ask)
	})
	h.step(pass(1), func() {
		want.Seats[1].Promised = at(4, 0)
		want.Votes = []api.Vote{ask[0], ask[2], promise[1]}
	})
	h.step(twice(0), func() { want.Votes = append(want.Votes, ask[0]) })
	h.step(lose(1), func() { want.Votes = []api.Vote{ask[0], promise[1], ask[0]} })
	h.step(pass(0), func() {
		want.Seats[0].Promised = at(4, 0)
		want.Votes = []api.Vote{promise[1], ask[0], promise[0]}
	})
	h.step(pass(1), func() { want.Votes = []api.Vote{promise[1], promise[0]} }) // it comes once more, and changes nothing
	h.step(pass(0), func() {
		want.Bids[0].Heard = 2
		want.Votes = promise[:1]
	})
	h.step(twice(0), func() { want.Votes = []api.Vote{promise[0], promise[0]} })
	h.step(pass(0), func() { // enough were heard: it puts
		want.Bids[0].Phase, want.Bids[0].Heard, want.Bids[0].Value = api.PhasePut, 0, "a"
		want.Votes = []api.Vote{promise[0], put[0], put[1], put[2]}
	})
	h.step(pass(0), func() { want.Votes = put })
	h.step(pass(2), func() { // a node that promised nothing keeps it all the same
		want.Seats[2] = api.Seat{Promised: at(4, 0), Kept: of(4, 0, "a")}
		want.Votes = []api.Vote{put[0], put[1], kept[2]}
	})
	h.step(pass(2), func() {
		want.Bids[0].Heard = 4
		want.Votes = put[:2]
	})
	h.step(pass(1), func() {
		want.Seats[1].Kept = of(4, 0, "a")
		want.Votes = []api.Vote{put[0], kept[1]}
	})
	h.step(pass(1), func() {
		want.Bids[0].Heard, want.Bids[0].Phase = 6, api.PhaseDone
		want.Votes = put[:1]
	})
	h.step(lose(0), func() { want.Votes = nil })
}

// O2, O4: three bids that were reckoned by hand: what one node alone kept isn't chosen, and whoever comes behind a bid that is done puts what that did.
func TestBidsByHand(t *testing.T) {
	h := &hand{t, fresh(t, alike(3)), fresh(t, alike(3))}
	all := func(steps ...api.Step) {
		t.Helper()
		for _, x := range steps {
			h.s = do(t, h.s, x)
		}
	}
	all(bid(2, "a"), pass(0), pass(0), pass(1), pass(1))          // nodes 0 and 1 promised, it puts
	all(pass(1), lose(3))                                         // node 0 keeps a, which nobody hears
	all(bid(2, "b"), lose(3), pass(3), pass(3), pass(3), pass(3)) // the same time, a greater number: nodes 1 and 2 promised, and kept nothing
	h.want.Seats = []api.Seat{{Promised: at(2, 0), Kept: of(2, 0, "a")}, {Promised: at(2, 1)}, {Promised: at(2, 1)}}
	h.want.Bids = []api.Bid{{Time: 2, Phase: 2, Own: "a", Value: "a"}, {Time: 2, Phase: 2, Own: "b", Value: "b"}}
	a, b := votes(api.VoteAccept, 0, 3, of(2, 0, "a")), votes(api.VoteAccept, 1, 3, of(2, 1, "b"))
	ask := votes(api.VotePrepare, 0, 3, of(2, 0, ""))
	h.want.Votes = slices.Concat(ask[2:], a[1:], b)
	if !same(h.s, h.want) {
		t.Fatalf("it is %v, want %v", h.s, h.want)
	}
	h.step(pass(1), func() { h.want.Votes = slices.Concat(ask[2:], a[2:], b) }) // node 1 promised another one: a is too late
	h.step(pass(0), func() { h.want.Votes = slices.Concat(a[2:], b) })
	h.step(pass(0), func() { h.want.Votes = b })
	all(lose(0), pass(0), pass(0), pass(0), pass(0)) // nodes 1 and 2 keep b, and it is done
	all(bid(1, "c"), pass(0), pass(0), pass(0))      // a lesser stamp: nobody promises
	all(bid(9, "d"), lose(2), pass(0), pass(0), pass(0), pass(0))
	h.want.Seats = []api.Seat{{Promised: at(9, 3), Kept: of(2, 0, "a")}, {Promised: at(9, 3), Kept: of(2, 1, "b")}, {Promised: at(2, 1), Kept: of(2, 1, "b")}}
	h.want.Bids[1].Phase, h.want.Bids[1].Heard = 3, 6
	h.want.Bids = append(h.want.Bids, api.Bid{Time: 1, Phase: 1, Own: "c"}, api.Bid{Time: 9, Phase: 2, Own: "d", Value: "b", Best: of(2, 1, "b")})
	h.want.Votes = votes(api.VoteAccept, 3, 3, of(9, 3, "b"))
	if !same(h.s, h.want) {
		t.Fatalf("it is %v, want %v", h.s, h.want)
	}
}

// O2: whatever comes to a bid that is done, it is as it was.
func TestDoneStays(t *testing.T) {
	for kind := api.VotePrepare; kind <= api.VoteKept; kind++ {
		s := busy()
		s.Votes = []api.Vote{{Kind: kind, Bid: 1, Node: 2, Copy: of(5, 1, "")}}
		if next := do(t, s, pass(0)); next.Bids[1] != s.Bids[1] {
			t.Errorf("%v: %v", s.Votes, next)
		}
	}
}

// O2: one node, whose only voice is enough: each bid behind the first one, of a greater stamp, puts what that did.
func TestOneNode(t *testing.T) {
	s := fresh(t, alike(1))
	for no := range api.MaxOps {
		s = do(t, s, bid(1+no/2, long(no+1)))
		for range 4 {
			s = do(t, s, pass(0))
		}
		if has := of(1+no/2, no, "z"); len(s.Votes) != 0 || s.Seats[0] != (api.Seat{Promised: has.At, Kept: has}) || s.Bids[no].Phase != api.PhaseDone || s.Bids[no].Value != "z" {
			t.Fatalf("bid %d: %v", no, s)
		}
	}
}

// O2: steps of each form that is none, and those at the limits that are good.
func TestWrongSteps(t *testing.T) {
	s := busy()
	for _, c := range []struct {
		x    api.Step
		want api.Errno
	}{
		{api.Step{}, api.ErrKind},
		{api.Step{Kind: -1, N: -1, Data: "x"}, api.ErrKind},
		{api.Step{Kind: api.StepRead}, api.ErrKind},
		{api.Step{Kind: api.StepWrite, N: 1, Data: long(65)}, api.ErrKind},
		{api.Step{Kind: 7, Data: "x"}, api.ErrKind},
		{api.Step{Kind: math.MaxInt, N: 99}, api.ErrKind},
		{api.Step{Kind: math.MinInt}, api.ErrKind},
		{api.Step{Kind: api.StepPass, Data: "x"}, api.ErrForm},
		{api.Step{Kind: api.StepPass, N: 99, Data: "x"}, api.ErrForm},
		{api.Step{Kind: api.StepLose, N: -1, Data: "\x00"}, api.ErrForm},
		{api.Step{Kind: api.StepTwice, N: 4, Data: long(65)}, api.ErrForm},
		{bid(0, ""), api.ErrRange},
		{bid(-1, long(65)), api.ErrRange},
		{bid(api.MaxTime+1, long(65)), api.ErrRange},
		{bid(math.MinInt, ""), api.ErrRange},
		{bid(math.MaxInt, ""), api.ErrRange},
		{bid(1, long(65)), api.ErrMany},
		{bid(api.MaxTime, long(1000)), api.ErrMany},
		{pass(-1), api.ErrRange},
		{pass(4), api.ErrRange},
		{pass(math.MaxInt), api.ErrRange},
		{lose(-1), api.ErrRange},
		{lose(4), api.ErrRange},
		{lose(math.MinInt), api.ErrRange},
		{twice(-1), api.ErrRange},
		{twice(4), api.ErrRange},
		{twice(math.MaxInt), api.ErrRange},
	} {
		fails(t, s, c.x, c.want)
	}
	for _, time := range []int{1, 2, api.MaxTime} {
		for _, would := range []string{"", "x", "\x00", long(64)} {
			if next := do(t, s, bid(time, would)); next.Bids[3] != (api.Bid{Time: time, Phase: 1, Own: would}) || !slices.Equal(next.Votes, append(slices.Clone(s.Votes), votes(1, 3, 3, of(time, 3, ""))...)) {
				t.Errorf("%d, %d bytes: %v", time, len(would), next)
			}
		}
	}
	for n := range 4 {
		do(t, s, pass(n))
		if next := do(t, s, lose(n)); len(next.Votes) != 3 || !slices.Equal(next.Seats, s.Seats) || !slices.Equal(next.Bids, s.Bids) {
			t.Errorf("%v", next)
		}
		if next := do(t, s, twice(n)); !slices.Equal(next.Votes, append(slices.Clone(s.Votes), s.Votes[n])) || !slices.Equal(next.Seats, s.Seats) || !slices.Equal(next.Bids, s.Bids) {
			t.Errorf("%v", next)
		}
	}
}

// O2: no more than MaxOps bids, whatever they are; votes step on.
func TestMostBids(t *testing.T) {
	s := fresh(t, alike(1))
	for range api.MaxOps {
		s = do(t, s, bid(1, ""))
	}
	for _, x := range []api.Step{bid(1, ""), bid(0, ""), bid(-1, long(65)), bid(api.MaxTime, long(65))} {
		fails(t, s, x, api.ErrMany)
	}
	fails(t, s, pass(31), api.ErrRange)
	if next := do(t, s, pass(30)); len(next.Votes) != 31 || next.Seats[0].Promised != at(1, 30) {
		t.Errorf("%v", next)
	}
}

// crowd: three nodes, a bid that waits for its last promise, which is the first of so many votes; behind it one that was heard, and those that ask node after node.
func crowd(many int) api.Synod {
	s := api.Synod{Voters: alike(3), Seats: make([]api.Seat, 3), Bids: []api.Bid{{Time: 9, Phase: api.PhaseQuery, Own: "a", Heard: 1}}}
	s.Votes = append(s.Votes, api.Vote{Kind: api.VotePromise, Node: 2}, api.Vote{Kind: api.VotePromise, Node: 0})
	for len(s.Votes) < many {
		s.Votes = append(s.Votes, api.Vote{Kind: api.VotePrepare, Node: len(s.Votes) % 3, Copy: of(9, 0, "")})
	}
	return s
}

// O2: no more than MaxNet votes: that which goes counts no longer, those that are sent do.
func TestMostVotes(t *testing.T) {
	for many := 190; many <= 200; many++ {
		s := crowd(many)
		for _, c := range []struct {
			x    api.Step
			more int
		}{
			{bid(1, "x"), 3},
			{pass(0), 2},
			{pass(1), -1},
			{pass(2), 0},
			{pass(many - 1), 0},
			{lose(many - 1), -1},
			{lose(0), -1},
			{twice(many - 1), 1},
			{twice(0), 1},
		} {
			if many+c.more > 200 {
				fails(t, s, c.x, api.ErrMany)
			} else if next := do(t, s, c.x); len(next.Votes) != many+c.more {
				t.Errorf("%v of %d: %d", c.x, many, len(next.Votes))
			}
		}
		fails(t, s, twice(many), api.ErrRange)
		fails(t, s, bid(0, "x"), api.ErrRange)
		fails(t, s, bid(1, long(65)), api.ErrMany)
	}
}

// anyStep: mostly one that can be done, now and then one that can't.
func anyStep(d *draw, s api.Synod) api.Step {
	n := d.below(len(s.Votes) + 1)
	switch d.below(24) {
	case 0:
		return bid(1+len(s.Bids)/3+d.below(4), string(rune('a'+len(s.Bids))))
	case 1:
		return api.Step{Kind: d.below(8), N: d.below(4), Data: []string{"", "x", long(65)}[d.below(3)]}
	case 2, 3, 4:
		return lose(n)
	case 5, 6:
		return twice(n)
	}
	return pass(n)
}

// O3: Run is Do of one step behind the other, without those that have an error, of which there are some.
func TestRun(t *testing.T) {
	d := draw(3)
	wrong := 0
	for round := range 120 {
		first := fresh(t, some()[round%len(some())])
		s := first
		var steps []api.Step
		good := 0
		for range round * 200 / 119 {
			x := anyStep(&d, s)
			steps = append(steps, x)
			if next, e := Do(s, x); e == api.OK {
				s = next
				good++
			}
		}
		wrong += len(steps) - good
		if now, done, e := Run(first, steps); !same(now, s) || done != good || e != api.OK {
			t.Fatalf("Run of %v: %v, %d, %d, want %v, %d", steps, now, done, e, s, good)
		}
	}
	if wrong < 100 {
		t.Errorf("only %d had an error", wrong)
	}
}

// O3: a step that fails late, when its bid has begun already or its vote was taken, changes nothing.
func TestLateErrorsChangeNothing(t *testing.T) {
	s := crowd(199)
	for _, x := range []api.Step{bid(1, "x"), pass(0)} {
		if now, done, e := Run(s, slices.Repeat([]api.Step{x}, 5)); !same(now, s) || done != 0 || e != api.OK {
			t.Errorf("%v: %v, %d, %d", x, now, done, e)
		}
	}
	now, done, e := Run(s, []api.Step{pass(0), lose(198), pass(0)})
	if len(now.Votes) != 200 || now.Bids[0].Phase != api.PhasePut || done != 2 || e != api.OK {
		t.Errorf("%v, %d, %d", now, done, e)
	}
}

// O3: as many steps as may be, and one more; steps that are wrong count too.
func TestMostSteps(t *testing.T) {
	for _, s := range []api.Synod{fresh(t, alike(3)), busy(), full()} {
		for _, many := range []int{0, 1, 200} {
			if now, done, e := Run(s, make([]api.Step, many)); !same(now, s) || done != 0 || e != api.OK {
				t.Errorf("%d steps: %v, %d, %d", many, now, done, e)
			}
		}
		for _, many := range []int{201, 1000} {
			if now, done, e := Run(s, make([]api.Step, many)); !same(now, api.Synod{}) || done != 0 || e != api.ErrMany {
				t.Errorf("%d steps: %v, %d, %d", many, now, done, e)
			}
		}
	}
	if now, done, e := Run(fresh(t, alike(3)), slices.Repeat([]api.Step{bid(1, "")}, 200)); len(now.Bids) != 31 || done != 31 || e != api.OK {
		t.Errorf("%v, %d, %d", now, done, e)
	}
}

// less: is the first stamp below the second one?
func less(a, b api.Stamp) bool { return a.Time < b.Time || a.Time == b.Time && a.Who < b.Who }

// seen: of how many bids something that O4 speaks of was asked.
type seen struct{ done, others, behind, apart int }

// agreed: what O4 says of a synod that was New.
func (n *seen) agreed(t *testing.T, s api.Synod) {
	t.Helper()
	puts := func(b api.Bid) bool { return b.Phase != api.PhaseQuery }
	for i, a := range s.Bids {
		for j, b := range s.Bids {
			if puts(a) && puts(b) && a.Value != b.Value {
				n.apart++
			}
			if a.Phase != api.PhaseDone || !puts(b) || b.Phase != api.PhaseDone && less(at(b.Time, j), at(a.Time, i)) {
				continue
			}
			if b.Value != a.Value {
				t.Fatalf("%v is done, and %v puts another value: %v", a, b, s)
			}
			if i != j {
				n.behind++
			}
		}
		if puts(a) && !slices.ContainsFunc(s.Bids, func(b api.Bid) bool { return b.Own == a.Value }) {
			t.Fatalf("%v puts what no bid would have: %v", a, s)
		}
		if a.Phase == api.PhaseDone {
			n.done++
			if a.Value != a.Own {
				n.others++
			}
		}
	}
}

// O4: whatever is lost, comes twice or out of turn.
func TestAgreement(t *testing.T) {
	d := draw(4)
	var n seen
	for round := range 400 {
		s := fresh(t, some()[round%len(some())])
		for range 500 {
			if next, e := Do(s, anyStep(&d, s)); e == api.OK {
				s = next
			}
		}
		if e := Check(s); e != api.OK {
			t.Fatalf("Check(%v) = %d", s, e)
		}
		n.agreed(t, s)
	}
	if n.done < 500 || n.others < 500 || n.behind < 500 || n.apart < 50 {
		t.Errorf("only so many: %v", n)
	}
}

// O4: at each step of a run, not at its end alone.
func TestAgreementAllAlong(t *testing.T) {
	d := draw(5)
	var n seen
	for round := range 60 {
		s := fresh(t, some()[round%len(some())])
		for range 300 {
			if next, e := Do(s, anyStep(&d, s)); e == api.OK {
				s = next
				n.agreed(t, s)
			}
		}
	}
	if n.done < 500 || n.apart < 500 {
		t.Errorf("only so many: %v", n)
	}
}

// roomy: the busy synod, each list with room behind it in which something stands.
func roomy() (api.Synod, func() bool) {
	s := busy()
	s.Voters.Weights = append(s.Voters.Weights, 77, -8)
	s.Seats = append(s.Seats, api.Seat{Promised: at(7, 7)}, api.Seat{Promised: at(8, 8)})
	s.Bids = append(s.Bids, api.Bid{Time: 77}, api.Bid{Time: 88})
	s.Votes = append(s.Votes, slices.Repeat([]api.Vote{{Kind: 77}}, 9)...)
	whole, was := s, twin(s)
	s.Voters.Weights, s.Seats, s.Bids, s.Votes = s.Voters.Weights[:3], s.Seats[:3], s.Bids[:3], s.Votes[:4]
	return s, func() bool { return same(whole, was) }
}

// clears all that a synod has.
func clears(s api.Synod) {
	clear(s.Voters.Weights[:cap(s.Voters.Weights)])
	clear(s.Seats[:cap(s.Seats)])
	clear(s.Bids[:cap(s.Bids)])
	clear(s.Votes[:cap(s.Votes)])
}

// P2: what is handed in is only read, the room behind it too; an answer is new memory, and does not change with what was handed in.
func TestInputsAreOnlyRead(t *testing.T) {
	for _, x := range []api.Step{bid(9, "x"), pass(0), pass(1), pass(2), pass(3), lose(0), twice(0), {Kind: 9}} {
		for _, call := range []func(api.Synod) api.Synod{
			func(s api.Synod) api.Synod { next, _ := Do(s, x); return next },
			func(s api.Synod) api.Synod { next, _, _ := Run(s, []api.Step{x, x}); return next },
			func(s api.Synod) api.Synod { next, _, _ := Run(s, nil); return next },
		} {
			s, stays := roomy()
			next := call(s)
			if !stays() {
				t.Fatalf("%v changed what it was handed: %v", x, s)
			}
			was := twin(next)
			clears(s)
			if !same(next, was) {
				t.Errorf("%v: what it answered changed: %v", x, next)
			}
			s, stays = roomy()
			clears(call(s))
			if !stays() {
				t.Errorf("%v: what it was handed changed with the answer: %v", x, s)
			}
		}
	}
}

// P2: so are the voters of New.
func TestVotersAreOnlyRead(t *testing.T) {
	room := []int{1, 1, 1, 77, -8}
	s := fresh(t, api.Voters{Weights: room[:3], Need: 2})
	clears(s)
	if !slices.Equal(room, []int{1, 1, 1, 77, -8}) {
		t.Errorf("it is %v", room)
	}
	s = fresh(t, api.Voters{Weights: room[:3], Need: 2})
	clear(room)
	if !slices.Equal(s.Voters.Weights, []int{1, 1, 1}) {
		t.Errorf("it is %v", s.Voters)
	}
}

// P2: Run only reads its steps.
func TestStepsAreOnlyRead(t *testing.T) {
	steps := []api.Step{bid(9, "x"), pass(0), {Kind: 9, N: 9, Data: "y"}}
	was := slices.Clone(steps)
	Run(busy(), steps[:2])
	if !slices.Equal(steps, was) {
		t.Errorf("they are %v", steps)
	}
}

// P3: calls between change no answer.
func TestAnswersStay(t *testing.T) {
	first := do(t, busy(), pass(0))
	was := twin(first)
	clears(first)
	do(t, full(), lose(0))
	Do(api.Synod{}, pass(0))
	if again := do(t, busy(), pass(0)); !same(again, was) {
		t.Errorf("first %v, then %v", was, again)
	}
}

// P1: no call panics, whatever it is handed; with an error the rest is empty, and without one there is a synod.
func TestNoPanic(t *testing.T) {
	d := draw(6)
	odd := func() int {
		if d.below(8) > 0 {
			return d.below(4)
		}
		return []int{math.MinInt, -1, 12, 31, 64, 1000001, math.MaxInt}[d.below(7)]
	}
	text := func() string { return []string{"", "", "x", long(64), long(65)}[d.below(5)] }
	good := 0
	for range 20000 {
		s := busy()
		switch d.below(5) {
		case 0:
			s.Voters = api.Voters{Weights: []int{odd(), odd(), odd()}, Need: odd()}
		case 1:
			s.Seats[d.below(3)] = api.Seat{Promised: at(odd(), odd()), Kept: of(odd(), odd(), text())}
		case 2:
			s.Bids[d.below(3)] = api.Bid{Time: odd(), Phase: odd(), Own: text(), Value: text(), Best: of(odd(), odd(), text()), Heard: uint64(1)<<d.below(64) - 1}
		case 3:
			s.Votes[d.below(4)] = api.Vote{Kind: odd(), Bid: odd(), Node: odd(), Copy: of(odd(), odd(), text())}
		}
		x := api.Step{Kind: odd() + d.below(4), N: odd(), Data: text()}
		next, e := Do(s, x)
		now, done, f := Run(s, []api.Step{x, pass(odd()), x})
		if e != api.OK && !same(next, api.Synod{}) || f != api.OK && (done != 0 || !same(now, api.Synod{})) {
			t.Fatalf("%v, %v: %v, %d; %v, %d, %d", s, x, next, e, now, done, f)
		}
		if e == api.OK && Check(next) != api.OK || f == api.OK && Check(now) != api.OK {
			t.Fatalf("%v, %v: %v; %v", s, x, next, now)
		}
		if e == api.OK {
			good++
		}
	}
	if good < 500 {
		t.Errorf("only %d were good", good)
	}
}
