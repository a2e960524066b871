package seat

import (
	"math"
	"slices"
	"strings"
	"testing"

	"supercargo/api"
)

// draw gives the same numbers each time.
type draw uint64

func (d *draw) below(n int) int {
	*d = *d*6364136223846793005 + 1442695040888963407
	return int(uint64(*d) >> 33 % uint64(n))
}

func at(time, who int) api.Stamp { return api.Stamp{Time: time, Who: who} }

func of(time, who int, data string) api.Copy { return api.Copy{At: at(time, who), Data: data} }

// long: so many bytes.
func long(bytes int) string { return strings.Repeat("z", bytes) }

// alike: so many nodes of weight 1, of which more than half are needed.
func alike(nodes int) api.Voters {
	return api.Voters{Weights: slices.Repeat([]int{1}, nodes), Need: nodes/2 + 1}
}

// some voters that are good.
func some() []api.Voters {
	return []api.Voters{alike(1), alike(2), alike(3), alike(5), alike(12), {Weights: []int{3, 1, 0}, Need: 3}, {Weights: []int{0, 2, 2, 1}, Need: 4}, {Weights: []int{100, 0}, Need: 51}}
}

// badVote: a vote, and what CheckVote answers of it.
type badVote struct {
	v    api.Vote
	want api.Errno
}

// badVotes: each limit, and of several faults the one that N1 names first.
func badVotes() []badVote {
	return []badVote{
		{api.Vote{}, api.ErrKind},
		{api.Vote{Kind: 5}, api.ErrKind},
		{api.Vote{Kind: -1, Bid: 31, Node: 12}, api.ErrKind},
		{api.Vote{Kind: math.MaxInt, Copy: of(-1, 0, "")}, api.ErrKind},
		{api.Vote{Kind: 1, Bid: -1}, api.ErrRange},
		{api.Vote{Kind: 2, Bid: 31}, api.ErrRange},
		{api.Vote{Kind: 3, Bid: math.MaxInt, Copy: of(0, 0, long(65))}, api.ErrRange},
		{api.Vote{Kind: 4, Node: -1}, api.ErrRange},
		{api.Vote{Kind: 1, Node: 12, Copy: of(0, 0, "x")}, api.ErrRange},
		{api.Vote{Kind: 2, Node: math.MinInt, Copy: of(0, 0, long(65))}, api.ErrRange},
		{api.Vote{Kind: 1, Copy: of(-1, 0, "x")}, api.ErrRange},
		{api.Vote{Kind: 2, Copy: of(api.MaxTime+1, 0, "")}, api.ErrRange},
		{api.Vote{Kind: 3, Copy: of(0, 32, long(65))}, api.ErrRange},
		{api.Vote{Kind: 4, Copy: of(0, -1, "x")}, api.ErrRange},
		{api.Vote{Kind: 1, Copy: of(0, 0, long(65))}, api.ErrMany},
		{api.Vote{Kind: 2, Copy: of(1, 0, long(65))}, api.ErrMany},
		{api.Vote{Kind: 3, Copy: of(1, 0, long(65))}, api.ErrMany},
		{api.Vote{Kind: 4, Copy: of(1, 0, long(65))}, api.ErrMany},
		{api.Vote{Kind: 1, Copy: of(1, 0, "x")}, api.ErrForm},
		{api.Vote{Kind: 1, Copy: of(0, 0, long(64))}, api.ErrForm},
		{api.Vote{Kind: 4, Bid: 30, Node: 11, Copy: of(1, 0, "\x00")}, api.ErrForm},
	}
}

// N1: what is good, at the limits; what is not, too.
func TestCheckVote(t *testing.T) {
	for _, v := range []api.Vote{
		{Kind: 1}, {Kind: 2}, {Kind: 3}, {Kind: 4},
		{Kind: 1, Bid: 30, Node: 11, Copy: of(api.MaxTime, 31, "")},
		{Kind: 2, Bid: 30, Node: 11, Copy: of(api.MaxTime, 31, long(64))},
		{Kind: 3, Bid: 30, Node: 11, Copy: of(api.MaxTime, 31, long(64))},
		{Kind: 4, Bid: 30, Node: 11, Copy: of(api.MaxTime, 31, "")},
		{Kind: 2, Copy: of(0, 0, "x")},
	} {
		if e := CheckVote(v); e != api.OK {
			t.Errorf("CheckVote(%v) = %d", v, e)
		}
	}
	for _, c := range badVotes() {
		if e := CheckVote(c.v); e != c.want {
			t.Errorf("CheckVote(%v) = %d, want %d", c.v, e, c.want)
		}
	}
}

// badSeat: a seat, and what CheckSeat answers of it.
type badSeat struct {
	s    api.Seat
	want api.Errno
}

// badSeats: each limit, and of several faults the one that N1 names first.
func badSeats() []badSeat {
	return []badSeat{
		{api.Seat{Promised: at(-1, 0)}, api.ErrRange},
		{api.Seat{Promised: at(api.MaxTime+1, 0)}, api.ErrRange},
		{api.Seat{Promised: at(0, -1), Kept: of(0, 0, long(65))}, api.ErrRange},
		{api.Seat{Promised: at(0, 32), Kept: of(0, 0, long(65))}, api.ErrRange},
		{api.Seat{Promised: at(5, 0), Kept: of(-1, 0, "")}, api.ErrRange},
		{api.Seat{Promised: at(5, 0), Kept: of(api.MaxTime+1, 0, "")}, api.ErrRange},
		{api.Seat{Promised: at(5, 0), Kept: of(0, 32, "")}, api.ErrRange},
		{api.Seat{Promised: at(5, 0), Kept: of(4, 0, long(65))}, api.ErrMany},
		{api.Seat{Promised: at(5, 0), Kept: of(6, 0, long(65))}, api.ErrMany},
		{api.Seat{Promised: at(5, 0), Kept: of(6, 0, "")}, api.ErrState},
		{api.Seat{Promised: at(5, 3), Kept: of(5, 4, "x")}, api.ErrState},
		{api.Seat{Kept: of(0, 1, "")}, api.ErrState},
	}
}

// N1: seats that are good, at the limits, and such as are not.
func TestCheckSeat(t *testing.T) {
	for _, s := range []api.Seat{
		{},
		{Kept: of(0, 0, "x")},
		{Promised: at(5, 3)},
		{Promised: at(5, 3), Kept: of(5, 3, "x")},
		{Promised: at(5, 3), Kept: of(5, 2, "x")},
		{Promised: at(5, 3), Kept: of(4, 31, "x")},
		{Promised: at(api.MaxTime, 31), Kept: of(api.MaxTime, 31, long(64))},
	} {
		if e := CheckSeat(s); e != api.OK {
			t.Errorf("CheckSeat(%v) = %d", s, e)
		}
	}
	for _, c := range badSeats() {
		if e := CheckSeat(c.s); e != c.want {
			t.Errorf("CheckSeat(%v) = %d, want %d", c.s, e, c.want)
		}
	}
}

// badBid: voters and a bid, and what CheckBid answers of them.
type badBid struct {
	v    api.Voters
	b    api.Bid
	want api.Errno
}

// badVoters: each kind of fault of them; whatever the bid is, they tell first.
func badVoters() []badBid {
	var all []badBid
	for _, b := range []api.Bid{{Time: 1, Phase: 1}, {}, {Time: 1, Phase: 9, Own: long(65), Heard: math.MaxUint64}} {
		all = append(all,
			badBid{api.Voters{}, b, api.ErrFew},
			badBid{alike(13), b, api.ErrMany},
			badBid{api.Voters{Weights: []int{1, -1, 1}, Need: 2}, b, api.ErrRange},
			badBid{api.Voters{Weights: []int{101}, Need: 101}, b, api.ErrRange},
			badBid{api.Voters{Weights: []int{1, 1}, Need: 3}, b, api.ErrRange},
			badBid{api.Voters{Weights: []int{1, 1}, Need: 0}, b, api.ErrRange},
			badBid{api.Voters{Weights: []int{1, 1}, Need: 1}, b, api.ErrState},
		)
	}
	return all
}

// badBids: each limit, and of several faults the one that N1 names first.
func badBids() []badBid {
	three := alike(3)
	return []badBid{
		{three, api.Bid{Phase: 1}, api.ErrRange},
		{three, api.Bid{Time: -1, Phase: 9, Own: long(65)}, api.ErrRange},
		{three, api.Bid{Time: api.MaxTime + 1, Phase: 1}, api.ErrRange},
		{three, api.Bid{Time: math.MaxInt, Phase: 0}, api.ErrRange},
		{three, api.Bid{Time: 1}, api.ErrKind},
		{three, api.Bid{Time: 1, Phase: 4}, api.ErrKind},
		{three, api.Bid{Time: 1, Phase: -1, Value: long(65)}, api.ErrKind},
		{three, api.Bid{Time: 1, Phase: math.MaxInt, Best: of(-1, 0, ""), Heard: 8}, api.ErrKind},
		{three, api.Bid{Time: 1, Phase: 1, Own: long(65)}, api.ErrMany},
		{three, api.Bid{Time: 1, Phase: 1, Value: long(65), Best: of(-1, 0, "")}, api.ErrMany},
		{three, api.Bid{Time: 1, Phase: 3, Own: long(65), Heard: 8}, api.ErrMany},
		{three, api.Bid{Time: 1, Phase: 1, Best: of(-1, 0, long(65))}, api.ErrRange},
		{three, api.Bid{Time: 1, Phase: 1, Best: of(api.MaxTime+1, 0, "")}, api.ErrRange},
		{three, api.Bid{Time: 1, Phase: 2, Best: of(0, 32, "")}, api.ErrRange},
		{three, api.Bid{Time: 1, Phase: 2, Best: of(0, 0, long(65)), Heard: 8}, api.ErrMany},
		{three, api.Bid{Time: 1, Phase: 1, Heard: 8}, api.ErrRange},
		{three, api.Bid{Time: 1, Phase: 2, Heard: 15}, api.ErrRange},
		{three, api.Bid{Time: 1, Phase: 3, Heard: 1 << 63}, api.ErrRange},
		{alike(12), api.Bid{Time: 1, Phase: 1, Heard: 1 << 12}, api.ErrRange},
		{alike(1), api.Bid{Time: 1, Phase: 1, Heard: 2}, api.ErrRange},
	}
}

// N1: bids that are good, at the limits.
func TestCheckOfGoodBids(t *testing.T) {
	for _, v := range some() {
		for _, b := range []api.Bid{
			{Time: 1, Phase: 1},
			{Time: api.MaxTime, Phase: 2, Own: long(64), Value: long(64), Best: of(api.MaxTime, 31, long(64)), Heard: 1<<len(v.Weights) - 1},
			{Time: 7, Phase: 3, Value: "x", Heard: 1 << (len(v.Weights) - 1)},
		} {
			if e := CheckBid(v, b); e != api.OK {
				t.Errorf("CheckBid(%v, %v) = %d", v, b, e)
			}
		}
	}
}

// N1, N4, P1: the errors in their order; of Hear too, behind that of the number and ahead of the vote's, and nothing beside them.
func TestWrongBids(t *testing.T) {
	for _, c := range slices.Concat(badVoters(), badBids()) {
		if e := CheckBid(c.v, c.b); e != c.want {
			t.Errorf("CheckBid(%v, %v) = %d, want %d", c.v, c.b, e, c.want)
		}
		for _, m := range []api.Vote{{Kind: 2}, {Kind: 4, Node: 1}, {Kind: 9}, {Kind: 2, Bid: 31}} {
			hearFails(t, c.v, 0, c.b, m, c.want)
			hearFails(t, c.v, 30, c.b, m, c.want)
			hearFails(t, c.v, -1, c.b, m, api.ErrRange)
			hearFails(t, c.v, 31, c.b, m, api.ErrRange)
		}
	}
}

// hearFails: Hear answers that error, and nothing beside it.
func hearFails(t *testing.T, v api.Voters, no int, b api.Bid, m api.Vote, want api.Errno) {
	t.Helper()
	if now, sent, e := Hear(v, no, b, m); now != (api.Bid{}) || len(sent) != 0 || e != want {
		t.Errorf("Hear(%v, %d, %v, %v) = %v, %v, %d, want %d", v, no, b, m, now, sent, e, want)
	}
}

// N4, P1: errors of a number or of a vote, whatever the phase is.
func TestHearOfWrongVotes(t *testing.T) {
	for phase := 1; phase <= 3; phase++ {
		b := api.Bid{Time: 9, Phase: phase, Own: "o", Heard: 7}
		for _, c := range badVotes() {
			hearFails(t, alike(3), 2, b, c.v, c.want)
			hearFails(t, alike(3), -1, b, c.v, api.ErrRange)
		}
		for _, no := range []int{-1, 31, math.MinInt, math.MaxInt} {
			hearFails(t, alike(3), no, b, api.Vote{Kind: 2}, api.ErrRange)
		}
	}
}

// N2: what was reckoned by hand: of a seat, a vote and what becomes of it; what it sends is told by its kind (0: nothing) and its copy.
func TestServe(t *testing.T) {
	s := api.Seat{Promised: at(5, 2), Kept: of(3, 1, "old")}
	promised := func(time, who int) api.Seat { return api.Seat{Promised: at(time, who), Kept: s.Kept} }
	kept := func(c api.Copy) api.Seat { return api.Seat{Promised: c.At, Kept: c} }
	for _, c := range []struct {
		kind int
		copy api.Copy
		want api.Seat
		sent int
		with api.Copy
	}{
		{1, of(5, 3, ""), promised(5, 3), 2, s.Kept},
		{1, of(6, 0, ""), promised(6, 0), 2, s.Kept},
		{1, of(api.MaxTime, 31, ""), promised(api.MaxTime, 31), 2, s.Kept},
		{1, of(5, 2, ""), s, 0, api.Copy{}},
		{1, of(5, 1, ""), s, 0, api.Copy{}},
		{1, of(4, 31, ""), s, 0, api.Copy{}},
		{1, of(0, 0, ""), s, 0, api.Copy{}},
		{3, of(5, 2, "new"), kept(of(5, 2, "new")), 4, of(5, 2, "")},
		{3, of(5, 3, "new"), kept(of(5, 3, "new")), 4, of(5, 3, "")},
		{3, of(6, 0, ""), kept(of(6, 0, "")), 4, of(6, 0, "")},
		{3, of(api.MaxTime, 31, long(64)), kept(of(api.MaxTime, 31, long(64))), 4, of(api.MaxTime, 31, "")},
		{3, of(5, 1, "new"), s, 0, api.Copy{}},
		{3, of(4, 31, "new"), s, 0, api.Copy{}},
		{3, of(0, 0, "new"), s, 0, api.Copy{}},
		{2, of(9, 9, "new"), s, 0, api.Copy{}},
		{4, of(9, 9, ""), s, 0, api.Copy{}},
	} {
		for _, to := range []api.Vote{{}, {Bid: 3, Node: 7}, {Bid: 30, Node: 11}} {
			v := api.Vote{Kind: c.kind, Bid: to.Bid, Node: to.Node, Copy: c.copy}
			var sent []api.Vote
			if c.sent != 0 {
				sent = []api.Vote{{Kind: c.sent, Bid: to.Bid, Node: to.Node, Copy: c.with}}
			}
			if now, l, e := Serve(s, v); now != c.want || !slices.Equal(l, sent) || e != api.OK {
				t.Errorf("Serve of %v: %v, %v, %d, want %v, %v", v, now, l, e, c.want, sent)
			}
		}
	}
}

// N2: a seat that promised nothing; and an accept that comes twice is kept twice.
func TestServeOfFreshSeats(t *testing.T) {
	if now, sent, e := Serve(api.Seat{}, api.Vote{Kind: 1}); now != (api.Seat{}) || len(sent) != 0 || e != api.OK {
		t.Errorf("a prepare of the zero stamp: %v, %v, %d", now, sent, e)
	}
	if now, sent, e := Serve(api.Seat{}, api.Vote{Kind: 1, Copy: of(0, 1, "")}); now != (api.Seat{Promised: at(0, 1)}) || !slices.Equal(sent, []api.Vote{{Kind: 2}}) || e != api.OK {
		t.Errorf("the least prepare: %v, %v, %d", now, sent, e)
	}
	if now, sent, e := Serve(api.Seat{}, api.Vote{Kind: 3, Copy: of(0, 0, "x")}); now != (api.Seat{Kept: of(0, 0, "x")}) || !slices.Equal(sent, []api.Vote{{Kind: 4}}) || e != api.OK {
		t.Errorf("an accept of the zero stamp: %v, %v, %d", now, sent, e)
	}
	s := api.Seat{}
	for range 2 {
		now, sent, e := Serve(s, api.Vote{Kind: 3, Bid: 2, Copy: of(4, 2, "x")})
		if now != (api.Seat{Promised: at(4, 2), Kept: of(4, 2, "x")}) || !slices.Equal(sent, []api.Vote{{Kind: 4, Bid: 2, Copy: of(4, 2, "")}}) || e != api.OK {
			t.Errorf("an accept: %v, %v, %d", now, sent, e)
		}
		s = now
	}
}

// N2, P1: errors of the seat go first, then those of the vote; nothing beside them.
func TestServeOfWrongInputs(t *testing.T) {
	fails := func(s api.Seat, v api.Vote, want api.Errno) {
		t.Helper()
		if now, sent, e := Serve(s, v); now != (api.Seat{}) || len(sent) != 0 || e != want {
			t.Errorf("Serve(%v, %v) = %v, %v, %d, want %d", s, v, now, sent, e, want)
		}
	}
	for _, s := range badSeats() {
		for kind := 0; kind <= 5; kind++ {
			fails(s.s, api.Vote{Kind: kind, Copy: of(9, 9, "")}, s.want)
		}
		for _, v := range badVotes() {
			fails(s.s, v.v, s.want)
		}
	}
	for _, v := range badVotes() {
		fails(api.Seat{}, v.v, v.want)
		fails(api.Seat{Promised: at(5, 2), Kept: of(3, 1, "old")}, v.v, v.want)
	}
}

// N2: whatever comes, a promise never goes back, and what is kept is no older than it was.
func TestPromisesStay(t *testing.T) {
	d := draw(1)
	less := func(a, b api.Stamp) bool { return a.Time < b.Time || a.Time == b.Time && a.Who < b.Who }
	for range 200 {
		s := api.Seat{}
		for range 60 {
			v := api.Vote{Kind: 1 + d.below(4), Bid: d.below(31), Node: d.below(12), Copy: of(d.below(9), d.below(4), "")}
			if v.Kind == 3 {
				v.Copy.Data = string(rune('a' + d.below(26)))
			}
			now, sent, e := Serve(s, v)
			if e != api.OK || CheckSeat(now) != api.OK || less(now.Promised, s.Promised) || less(now.Kept.At, s.Kept.At) || len(sent) == 0 && now != s {
				t.Fatalf("%v by %v: %v, %v, %d", s, v, now, sent, e)
			}
			for _, m := range sent {
				if CheckVote(m) != api.OK || m.Bid != v.Bid || m.Node != v.Node {
					t.Fatalf("%v by %v: %v", s, v, m)
				}
			}
			s = now
		}
	}
}

// votes of a bid to so many nodes.
func votes(kind, no, nodes int, c api.Copy) []api.Vote {
	var all []api.Vote
	for node := range nodes {
		all = append(all, api.Vote{Kind: kind, Bid: no, Node: node, Copy: c})
	}
	return all
}

// N3: a bid that heard nothing, and a prepare of its stamp to each node, in order.
func TestBegin(t *testing.T) {
	for _, v := range some() {
		for _, c := range []struct {
			no, time int
			own      string
		}{{0, 1, ""}, {0, api.MaxTime, "own"}, {30, 1, long(64)}, {7, 9, "\x00"}} {
			want := api.Bid{Time: c.time, Phase: api.PhaseQuery, Own: c.own}
			prepares := votes(api.VotePrepare, c.no, len(v.Weights), of(c.time, c.no, ""))
			if b, l, e := Begin(v, c.no, c.time, c.own); b != want || !slices.Equal(l, prepares) || e != api.OK {
				t.Errorf("Begin(%v, %v) = %v, %v, %d", v, c, b, l, e)
			}
		}
	}
}

// N3, P1: that of the number goes first, then CheckBid's of what it would be; nothing beside them.
func TestBeginOfWrongInputs(t *testing.T) {
	fails := func(v api.Voters, no, time int, own string, want api.Errno) {
		t.Helper()
		if b, l, e := Begin(v, no, time, own); b != (api.Bid{}) || len(l) != 0 || e != want {
			t.Errorf("Begin(%v, %d, %d, %d bytes) = %v, %v, %d, want %d", v, no, time, len(own), b, l, e, want)
		}
	}
	for _, c := range badVoters() {
		fails(c.v, 0, 1, "", c.want)
		fails(c.v, 30, 0, long(65), c.want)
		fails(c.v, -1, 1, "", api.ErrRange)
		fails(c.v, 31, 0, long(65), api.ErrRange)
	}
	three := alike(3)
	for _, no := range []int{-1, 31, math.MinInt, math.MaxInt} {
		fails(three, no, 1, "", api.ErrRange)
		fails(three, no, 1, long(65), api.ErrRange)
	}
	for _, time := range []int{0, -1, api.MaxTime + 1, math.MinInt, math.MaxInt} {
		fails(three, 0, time, "", api.ErrRange)
		fails(three, 30, time, long(65), api.ErrRange)
	}
	fails(three, 0, 1, long(65), api.ErrMany)
	fails(three, 30, api.MaxTime, long(1000), api.ErrMany)
}

// hear without an error.
func hear(t *testing.T, v api.Voters, no int, b api.Bid, m api.Vote) (api.Bid, []api.Vote) {
	t.Helper()
	now, sent, e := Hear(v, no, b, m)
	if e != api.OK {
		t.Fatalf("Hear(%v, %d, %v, %v): %d", v, no, b, m, e)
	}
	return now, sent
}

// N4: what was reckoned by hand: bid 2 of time 9, a vote, what becomes of it, and whether it puts its value.
func TestHearOfSome(t *testing.T) {
	three, heavy := alike(3), api.Voters{Weights: []int{3, 1, 0}, Need: 3}
	old, late, mine := of(7, 1, "old"), of(7, 4, "late"), of(9, 2, "")
	for i, c := range []struct {
		v    api.Voters
		b    api.Bid
		m    api.Vote
		want api.Bid
		puts bool
	}{
		{three, api.Bid{Phase: 1, Own: "o"}, api.Vote{Kind: 2, Node: 1, Copy: old}, api.Bid{Phase: 1, Own: "o", Best: old, Heard: 2}, false},
		{three, api.Bid{Phase: 1, Own: "o"}, api.Vote{Kind: 2, Node: 2}, api.Bid{Phase: 1, Own: "o", Heard: 4}, false},
		{three, api.Bid{Phase: 1, Own: "o", Heard: 1}, api.Vote{Kind: 2, Node: 1}, api.Bid{Phase: 2, Own: "o", Value: "o"}, true},
		{three, api.Bid{Phase: 1, Heard: 1}, api.Vote{Kind: 2, Node: 1}, api.Bid{Phase: 2}, true},
		{three, api.Bid{Phase: 1, Own: "o", Heard: 1}, api.Vote{Kind: 2, Node: 1, Copy: old}, api.Bid{Phase: 2, Own: "o", Value: "old", Best: old}, true},
		{three, api.Bid{Phase: 1, Own: "o", Best: old, Heard: 1}, api.Vote{Kind: 2, Node: 1}, api.Bid{Phase: 2, Own: "o", Value: "old", Best: old}, true},
		{three, api.Bid{Phase: 1, Own: "o", Best: old, Heard: 1}, api.Vote{Kind: 2, Node: 1, Copy: late}, api.Bid{Phase: 2, Own: "o", Value: "late", Best: late}, true},
		{three, api.Bid{Phase: 1, Own: "o", Best: late, Heard: 1}, api.Vote{Kind: 2, Node: 1, Copy: old}, api.Bid{Phase: 2, Own: "o", Value: "late", Best: late}, true},
		{three, api.Bid{Phase: 1, Own: "o", Best: old, Heard: 1}, api.Vote{Kind: 2, Node: 1, Copy: of(7, 1, "other")}, api.Bid{Phase: 2, Own: "o", Value: "old", Best: old}, true},
		{three, api.Bid{Phase: 1, Own: "o", Heard: 1}, api.Vote{Kind: 2, Node: 1, Copy: of(0, 1, "")}, api.Bid{Phase: 2, Own: "o", Value: "", Best: of(0, 1, "")}, true}, // what is kept is empty, but it is kept
		{three, api.Bid{Phase: 1, Own: "o", Heard: 1}, api.Vote{Kind: 2, Node: 1, Copy: of(0, 0, "x")}, api.Bid{Phase: 2, Own: "o", Value: "o"}, true},
		{three, api.Bid{Phase: 1, Own: "o", Best: of(0, 0, "x"), Heard: 1}, api.Vote{Kind: 2, Node: 1}, api.Bid{Phase: 2, Own: "o", Value: "o", Best: of(0, 0, "x")}, true},
		{three, api.Bid{Phase: 1, Own: "o", Value: "was", Heard: 1}, api.Vote{Kind: 2, Node: 1}, api.Bid{Phase: 2, Own: "o", Value: "o"}, true},
		{three, api.Bid{Phase: 1, Own: "o", Value: "was"}, api.Vote{Kind: 2, Node: 1}, api.Bid{Phase: 1, Own: "o", Value: "was", Heard: 2}, false},
		{three, api.Bid{Phase: 1, Own: "o", Heard: 3}, api.Vote{Kind: 2, Node: 2, Copy: of(99, 9, "above")}, api.Bid{Phase: 2, Own: "o", Value: "above", Best: of(99, 9, "above")}, true}, // enough were heard ahead of it
		{three, api.Bid{Phase: 2, Own: "o", Value: "v"}, api.Vote{Kind: 4, Node: 2, Copy: mine}, api.Bid{Phase: 2, Own: "o", Value: "v", Heard: 4}, false},
		{three, api.Bid{Phase: 2, Own: "o", Value: "v", Heard: 4}, api.Vote{Kind: 4, Copy: mine}, api.Bid{Phase: 3, Own: "o", Value: "v", Heard: 5}, false},
		{three, api.Bid{Phase: 2, Own: "o", Value: "v", Best: late, Heard: 4}, api.Vote{Kind: 4, Copy: mine}, api.Bid{Phase: 3, Own: "o", Value: "v", Best: late, Heard: 5}, false},
		{alike(1), api.Bid{Phase: 1, Own: long(64)}, api.Vote{Kind: 2}, api.Bid{Phase: 2, Own: long(64), Value: long(64)}, true},
		{alike(1), api.Bid{Phase: 2, Value: "v"}, api.Vote{Kind: 4, Copy: mine}, api.Bid{Phase: 3, Value: "v", Heard: 1}, false},
		{heavy, api.Bid{Phase: 1, Own: "o", Heard: 2}, api.Vote{Kind: 2, Node: 2, Copy: old}, api.Bid{Phase: 1, Own: "o", Best: old, Heard: 6}, false},
		{heavy, api.Bid{Phase: 1, Own: "o"}, api.Vote{Kind: 2}, api.Bid{Phase: 2, Own: "o", Value: "o"}, true},
		{heavy, api.Bid{Phase: 2, Value: "v", Heard: 6}, api.Vote{Kind: 4, Copy: mine}, api.Bid{Phase: 3, Value: "v", Heard: 7}, false},
	} {
		c.b.Time, c.want.Time, c.m.Bid = 9, 9, 2
		var accepts []api.Vote
		if c.puts {
			accepts = votes(api.VoteAccept, 2, len(c.v.Weights), of(9, 2, c.want.Value))
		}
		if now, sent := hear(t, c.v, 2, c.b, c.m); now != c.want || !slices.Equal(sent, accepts) {
			t.Errorf("%d: %v, %v, want %v, %v", i, now, sent, c.want, accepts)
		}
	}
}

// N4: everything else changes nothing: another kind, another bid, another stamp, a node that is none, one that was heard.
func TestHearOfOtherVotes(t *testing.T) {
	for phase := 1; phase <= 3; phase++ {
		for kind := 1; kind <= 4; kind++ {
			for _, stamp := range []api.Stamp{at(9, 2), at(9, 1), at(9, 3), at(8, 2), at(10, 2), at(0, 0)} {
				for _, m := range []api.Vote{{Bid: 2, Node: 1}, {Bid: 1, Node: 1}, {Bid: 9, Node: 1}, {Bid: 0, Node: 1}, {Bid: 2, Node: 0}, {Bid: 2, Node: 3}, {Bid: 2, Node: 11}} {
					m.Kind, m.Copy.At = kind, stamp
					wanted := m.Bid == 2 && m.Node == 1 && (phase == 1 && kind == 2 || phase == 2 && kind == 4 && stamp == at(9, 2))
					b := api.Bid{Time: 9, Phase: phase, Own: "o", Value: "v", Best: of(3, 2, "old"), Heard: 1}
					now, sent := hear(t, alike(3), 2, b, m)
					if changed := now != b || len(sent) > 0; changed != wanted {
						t.Errorf("phase %d, %v: %v, %v", phase, m, now, sent)
					}
				}
			}
		}
	}
}

// N2, N3, N4: with no vote lost each bid of a greater stamp is done, and has the first one's value; one of a lesser stamp is heard by nobody.
func TestOneBehindTheOther(t *testing.T) {
	for _, v := range some() {
		seats := make([]api.Seat, len(v.Weights))
		for no := range api.MaxOps {
			time := 10 + no
			if no%3 == 2 {
				time = 5
			}
			b, net, _ := Begin(v, no, time, string(rune('A'+no)))
			for ; len(net) > 0; net = net[1:] {
				m := net[0]
				var sent []api.Vote
				if m.Kind == api.VotePrepare || m.Kind == api.VoteAccept {
					seats[m.Node], sent, _ = Serve(seats[m.Node], m)
				} else {
					b, sent = hear(t, v, no, b, m)
				}
				net = append(net, sent...)
			}
			if late := no%3 == 2; late && (b.Phase != api.PhaseQuery || b.Heard != 0) || !late && (b.Phase != api.PhaseDone || b.Value != "A") {
				t.Fatalf("%v: bid %d is %v, seats %v", v, no, b, seats)
			}
		}
	}
}

// P2: weights, and the spare room behind them, are only read; an answer is the caller's, and does not change with them.
func TestWeightsAreOnlyRead(t *testing.T) {
	room := []int{1, 1, 1, 77, -8}
	v := api.Voters{Weights: room[:3], Need: 2}
	b, prepares, e := Begin(v, 5, 9, "own")
	now, sent := hear(t, v, 5, api.Bid{Time: 9, Phase: 1, Own: "own", Heard: 1}, api.Vote{Kind: 2, Bid: 5, Node: 1})
	if CheckBid(v, b) != api.OK || e != api.OK || len(prepares) != 3 || len(sent) != 3 {
		t.Fatalf("%v, %d; %v", prepares, e, sent)
	}
	if !slices.Equal(room, []int{1, 1, 1, 77, -8}) {
		t.Errorf("it is %v", room)
	}
	clear(room)
	clear(sent)
	if b.Time != 9 || prepares[2] != (api.Vote{Kind: 1, Bid: 5, Node: 2, Copy: of(9, 5, "")}) || now.Value != "own" {
		t.Errorf("%v, %v, %v", b, prepares, now)
	}
}

// P3: calls between change no answer.
func TestAnswersStay(t *testing.T) {
	b := api.Bid{Time: 9, Phase: 1, Own: "o", Best: of(3, 2, "old"), Heard: 1}
	m := api.Vote{Kind: 2, Bid: 5, Node: 1}
	first, sent := hear(t, alike(3), 5, b, m)
	was := slices.Clone(sent)
	clear(sent)
	hear(t, alike(5), 6, api.Bid{Time: 1, Phase: 1}, m)
	Hear(api.Voters{}, 5, b, m)
	Serve(api.Seat{}, api.Vote{Kind: 3, Copy: of(5, 5, "x")})
	if again, resent := hear(t, alike(3), 5, b, m); again != first || !slices.Equal(resent, was) {
		t.Errorf("first %v, %v, then %v, %v", first, was, again, resent)
	}
	if now, _, _ := Serve(api.Seat{}, api.Vote{Kind: 1, Copy: of(1, 1, "")}); now != (api.Seat{Promised: at(1, 1)}) {
		t.Errorf("%v", now)
	}
}

// P1: no call panics, whatever it is handed; with an error the rest is empty, and without one what comes out is good.
func TestNoPanic(t *testing.T) {
	d := draw(2)
	odd := func() int {
		if d.below(12) > 0 {
			return d.below(5)
		}
		return []int{math.MinInt, -1, 12, 31, 64, 1000001, math.MaxInt}[d.below(7)]
	}
	text := func() string { return long([]int{0, 0, 0, 1, 64, 65}[d.below(6)]) }
	good := 0
	for range 40000 {
		v := some()[d.below(len(some()))]
		if d.below(8) == 0 {
			v = api.Voters{Weights: []int{odd(), odd()}, Need: odd()}
		}
		no := odd()
		b := api.Bid{Time: odd(), Phase: odd(), Own: text(), Value: text(), Best: of(odd(), odd(), text()), Heard: uint64(1)<<d.below(64) - 1}
		m := api.Vote{Kind: odd(), Bid: odd(), Node: odd(), Copy: of(odd(), odd(), text())}
		s := api.Seat{Promised: at(odd(), odd()), Kept: of(odd(), odd(), text())}
		now, sent, e := Hear(v, no, b, m)
		begun, prepares, f := Begin(v, no, b.Time, b.Own)
		kept, answers, g := Serve(s, m)
		if e != api.OK && (now != (api.Bid{}) || len(sent) > 0) || f != api.OK && (begun != (api.Bid{}) || len(prepares) > 0) || g != api.OK && (kept != (api.Seat{}) || len(answers) > 0) {
			t.Fatalf("%v, %d, %v, %v, %v: %v, %v, %d; %v, %v, %d; %v, %v, %d", v, no, b, m, s, now, sent, e, begun, prepares, f, kept, answers, g)
		}
		if e == api.OK && CheckBid(v, now) != api.OK || f == api.OK && CheckBid(v, begun) != api.OK || g == api.OK && CheckSeat(kept) != api.OK {
			t.Fatalf("%v, %d, %v, %v, %v: %v; %v; %v", v, no, b, m, s, now, begun, kept)
		}
		for _, out := range slices.Concat(sent, prepares, answers) {
			if e := CheckVote(out); e != api.OK {
				t.Fatalf("%v is sent: %d", out, e)
			}
		}
		if e == api.OK && f == api.OK && g == api.OK {
			good++
		}
	}
	if good < 50 {
		t.Errorf("only %d were good", good)
	}
}
