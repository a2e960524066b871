package lease

import (
	"math"
	"testing"

	"supercargo/api"
)

// draw gives the same numbers each time.
type draw uint64

func (d *draw) below(n int) int {
	*d = *d*6364136223846793005 + 1442695040888963407
	return int(uint64(*d) >> 33 % uint64(n))
}

// wrongTimes: no moment, nor token.
func wrongTimes() []int { return []int{math.MinInt, -1, api.MaxTime + 1, math.MaxInt} }

// good leases: held, given back, never taken, and those at the limits.
func good() []api.Lease {
	return []api.Lease{
		{},
		{Holder: 3, Till: 9, Token: 2},
		{Till: 9, Token: 2},
		{Holder: 3},
		{Holder: 1, Till: 1, Token: 0},
		{Holder: api.MaxHolder, Till: api.MaxTime, Token: api.MaxTime},
		{Holder: 3, Till: 0, Token: api.MaxTime},
		{Till: api.MaxTime},
	}
}

// bad leases: each limit from both sides.
func bad() []api.Lease {
	all := []api.Lease{{Holder: -1}, {Holder: api.MaxHolder + 1}, {Holder: math.MaxInt}, {Holder: math.MinInt}, {Holder: -1, Till: -1, Token: -1}}
	for _, n := range wrongTimes() {
		all = append(all, api.Lease{Till: n}, api.Lease{Token: n}, api.Lease{Holder: 3, Till: n, Token: 5}, api.Lease{Holder: 3, Till: 9, Token: n})
	}
	return all
}

// taken: what Take must answer.
func taken(t *testing.T, l api.Lease, who, now, term int, want api.Lease, e api.Errno) {
	t.Helper()
	if got, f := Take(l, who, now, term); got != want || f != e {
		t.Errorf("Take(%v, %d, %d, %d) = %v, %d, want %v, %d", l, who, now, term, got, f, want, e)
	}
}

// given: what Give must answer.
func given(t *testing.T, l api.Lease, who, token, now int, want api.Lease, e api.Errno) {
	t.Helper()
	if got, f := Give(l, who, token, now); got != want || f != e {
		t.Errorf("Give(%v, %d, %d, %d) = %v, %d, want %v, %d", l, who, token, now, got, f, want, e)
	}
}

// held: what Held must answer.
func held(t *testing.T, l api.Lease, now, want int, e api.Errno) {
	t.Helper()
	if got, f := Held(l, now); got != want || f != e {
		t.Errorf("Held(%v, %d) = %d, %d, want %d, %d", l, now, got, f, want, e)
	}
}

// Q1: what is good.
func TestCheckOfGoodLeases(t *testing.T) {
	for _, l := range good() {
		if e := Check(l); e != api.OK {
			t.Errorf("Check(%v) = %d", l, e)
		}
	}
}

// Q1, Q2, Q3, P1: what is not; to the other calls too, whatever else is wrong, and nothing beside the error.
func TestWrongLeases(t *testing.T) {
	for _, l := range bad() {
		if e := Check(l); e != api.ErrRange {
			t.Errorf("Check(%v) = %d", l, e)
		}
		for _, n := range []int{math.MinInt, -1, 0, 1, 3, 5, api.MaxTime, math.MaxInt} {
			held(t, l, n, 0, api.ErrRange)
			taken(t, l, n, 5, 5, api.Lease{}, api.ErrRange)
			taken(t, l, 3, n, 5, api.Lease{}, api.ErrRange)
			taken(t, l, 4, n, n, api.Lease{}, api.ErrRange)
			given(t, l, n, l.Token, 5, api.Lease{}, api.ErrRange)
			given(t, l, 3, l.Token, n, api.Lease{}, api.ErrRange)
		}
	}
}

// Q1: the holder ahead of the end, nobody at it and behind it, and of nobody's lease never.
func TestHeld(t *testing.T) {
	for _, c := range []struct {
		l         api.Lease
		now, want int
	}{
		{api.Lease{}, 0, 0},
		{api.Lease{}, api.MaxTime, 0},
		{api.Lease{Holder: 7, Till: 10, Token: 4}, 0, 7},
		{api.Lease{Holder: 7, Till: 10, Token: 4}, 9, 7},
		{api.Lease{Holder: 7, Till: 10, Token: 4}, 10, 0},
		{api.Lease{Holder: 7, Till: 10, Token: 4}, 11, 0},
		{api.Lease{Holder: 7, Till: 10, Token: 4}, api.MaxTime, 0},
		{api.Lease{Holder: 7, Till: 0, Token: 4}, 0, 0},
		{api.Lease{Holder: 7, Till: 1}, 0, 7},
		{api.Lease{Till: 10, Token: 4}, 5, 0},
		{api.Lease{Holder: api.MaxHolder, Till: api.MaxTime}, api.MaxTime - 1, api.MaxHolder},
		{api.Lease{Holder: api.MaxHolder, Till: api.MaxTime}, api.MaxTime, 0},
	} {
		held(t, c.l, c.now, c.want, api.OK)
	}
}

// Q1, Q2, Q3, P1: ErrRange of a moment that is none, and nothing else.
func TestWrongMoments(t *testing.T) {
	for _, l := range good() {
		for _, now := range wrongTimes() {
			held(t, l, now, 0, api.ErrRange)
			taken(t, l, 3, now, 5, api.Lease{}, api.ErrRange)
			taken(t, l, 4, now, 0, api.Lease{}, api.ErrRange)
			given(t, l, l.Holder, l.Token, now, api.Lease{}, api.ErrRange)
			given(t, l, -1, -1, now, api.Lease{}, api.ErrRange)
		}
	}
}

// Q2: from nobody: a new holder, an end, and a token more.
func TestTakeFromNobody(t *testing.T) {
	for _, c := range []struct {
		l              api.Lease
		who, now, term int
		want           api.Lease
	}{
		{api.Lease{}, 5, 100, 50, api.Lease{Holder: 5, Till: 150, Token: 1}},
		{api.Lease{}, 1, 0, 1, api.Lease{Holder: 1, Till: 1, Token: 1}},
		{api.Lease{}, api.MaxHolder, 0, api.MaxTerm, api.Lease{Holder: api.MaxHolder, Till: api.MaxTerm, Token: 1}},
		{api.Lease{Holder: 7, Till: 10, Token: 4}, 8, 10, 3, api.Lease{Holder: 8, Till: 13, Token: 5}},
		{api.Lease{Holder: 7, Till: 10, Token: 4}, 7, 10, 3, api.Lease{Holder: 7, Till: 13, Token: 5}},
		{api.Lease{Holder: 7, Till: 10, Token: 4}, 7, 500, 3, api.Lease{Holder: 7, Till: 503, Token: 5}},
		{api.Lease{Till: 10, Token: 4}, 8, 5, 1, api.Lease{Holder: 8, Till: 6, Token: 5}},
		{api.Lease{Till: 900, Token: 4}, 8, 5, 2, api.Lease{Holder: 8, Till: 7, Token: 5}},
		{api.Lease{Token: api.MaxTime - 1}, 8, 5, 2, api.Lease{Holder: 8, Till: 7, Token: api.MaxTime}},
		{api.Lease{}, 8, api.MaxTime - 3, 2, api.Lease{Holder: 8, Till: api.MaxTime - 1, Token: 1}},
		{api.Lease{}, 8, api.MaxTime - 3, 3, api.Lease{Holder: 8, Till: api.MaxTime, Token: 1}},
		{api.Lease{}, 8, api.MaxTime - 3, 4, api.Lease{Holder: 8, Till: api.MaxTime, Token: 1}},
		{api.Lease{}, 8, api.MaxTime, api.MaxTerm, api.Lease{Holder: 8, Till: api.MaxTime, Token: 1}},
		{api.Lease{Holder: 7, Till: api.MaxTime, Token: 1}, 8, api.MaxTime, 1, api.Lease{Holder: 8, Till: api.MaxTime, Token: 2}},
	} {
		taken(t, c.l, c.who, c.now, c.term, c.want, api.OK)
	}
}

// Q2: by who holds it: the later end, all else stays, the greatest token too.
func TestTakeByTheHolder(t *testing.T) {
	for _, token := range []int{0, 1, 4, api.MaxTime} {
		l := api.Lease{Holder: 7, Till: 100, Token: token}
		for _, c := range [][3]int{{99, 1, 100}, {99, 2, 101}, {50, 49, 100}, {50, 50, 100}, {50, 51, 101}, {0, 1, 100}, {99, api.MaxTerm, 99 + api.MaxTerm}} {
			taken(t, l, 7, c[0], c[1], api.Lease{Holder: 7, Till: c[2], Token: token}, api.OK)
		}
		l.Till = api.MaxTime - 1
		taken(t, l, 7, api.MaxTime-2, api.MaxTerm, api.Lease{Holder: 7, Till: api.MaxTime, Token: token}, api.OK)
		l.Till = api.MaxTime
		taken(t, l, 7, api.MaxTime-1, 1, l, api.OK)
		taken(t, l, 7, 0, 1, l, api.OK)
	}
}

// Q2, P1: ErrRange, ErrState, ErrMany, in this order, and nothing else.
func TestTakeOfWrongInputs(t *testing.T) {
	spent := api.Lease{Holder: 7, Till: 100, Token: api.MaxTime}
	for _, l := range append(good(), spent) {
		for _, who := range []int{math.MinInt, -7, -1, 0, api.MaxHolder + 1, math.MaxInt} {
			taken(t, l, who, 5, 5, api.Lease{}, api.ErrRange)
			taken(t, l, who, 500, 5, api.Lease{}, api.ErrRange)
		}
		for _, term := range []int{math.MinInt, -1, 0, api.MaxTerm + 1, math.MaxInt} {
			taken(t, l, 7, 5, term, api.Lease{}, api.ErrRange)
			taken(t, l, 8, 500, term, api.Lease{}, api.ErrRange)
		}
	}
	for _, now := range []int{0, 50, 99} {
		for _, who := range []int{1, 6, 8, api.MaxHolder} {
			taken(t, api.Lease{Holder: 7, Till: 100, Token: 4}, who, now, api.MaxTerm, api.Lease{}, api.ErrState)
			taken(t, spent, who, now, 1, api.Lease{}, api.ErrState)
		}
	}
	for _, who := range []int{1, 7, api.MaxHolder} {
		taken(t, spent, who, 100, 1, api.Lease{}, api.ErrMany)
		taken(t, spent, who, api.MaxTime, api.MaxTerm, api.Lease{}, api.ErrMany)
		taken(t, api.Lease{Till: 100, Token: api.MaxTime}, who, 5, 1, api.Lease{}, api.ErrMany)
	}
}

// Q3: who holds it gives it back: nobody has it, and the token stays.
func TestGive(t *testing.T) {
	for _, token := range []int{0, 1, 4, api.MaxTime} {
		for _, now := range []int{0, 50, 99} {
			given(t, api.Lease{Holder: 7, Till: 100, Token: token}, 7, token, now, api.Lease{Till: now, Token: token}, api.OK)
		}
	}
	given(t, api.Lease{Holder: api.MaxHolder, Till: api.MaxTime, Token: 1}, api.MaxHolder, 1, api.MaxTime-1, api.Lease{Till: api.MaxTime - 1, Token: 1}, api.OK)
}

// Q3, P1: ErrState of whoever does not hold it, of another token, and of nobody, who holds nothing.
func TestGiveOfWrongInputs(t *testing.T) {
	l := api.Lease{Holder: 7, Till: 100, Token: 4}
	for _, c := range [][3]int{{6, 4, 50}, {8, 4, 50}, {0, 4, 50}, {-7, 4, 50}, {math.MinInt, 4, 0}, {math.MaxInt, 4, 0}, {7, 3, 50}, {7, 5, 50}, {7, 0, 50}, {7, -4, 50}, {7, math.MinInt, 99}, {7, math.MaxInt, 99}, {7, 4, 100}, {7, 4, 101}, {7, 4, api.MaxTime}, {0, 4, 100}} {
		given(t, l, c[0], c[1], c[2], api.Lease{}, api.ErrState)
	}
	for _, l := range []api.Lease{{}, {Token: 4}, {Till: 100, Token: 4}, {Till: api.MaxTime}} {
		for _, who := range []int{0, 1, -1} {
			given(t, l, who, l.Token, 0, api.Lease{}, api.ErrState)
			given(t, l, who, l.Token, 50, api.Lease{}, api.ErrState)
		}
	}
}

// passed: what Pass must answer.
func passed(t *testing.T, seen, token, want int, e api.Errno) {
	t.Helper()
	if got, f := Pass(api.Fence{Seen: seen}, token); got != (api.Fence{Seen: want}) || f != e {
		t.Errorf("Pass({%d}, %d) = %v, %d, want {%d}, %d", seen, token, got, f, want, e)
	}
}

// Q4: a token that is not below is let through, and seen; another one has ErrState.
func TestPass(t *testing.T) {
	for _, seen := range []int{0, 1, 5, 6, 7, api.MaxTime - 1, api.MaxTime} {
		for _, token := range []int{0, 1, 5, 6, 7, api.MaxTime - 1, api.MaxTime} {
			if token < seen {
				passed(t, seen, token, 0, api.ErrState)
			} else {
				passed(t, seen, token, token, api.OK)
			}
		}
	}
}

// Q4, P1: ErrRange of what is no token, seen or handed in, ahead of ErrState.
func TestPassOfWrongInputs(t *testing.T) {
	for _, n := range wrongTimes() {
		for _, other := range []int{-1, 0, 5, api.MaxTime, api.MaxTime + 1} {
			passed(t, n, other, 0, api.ErrRange)
			passed(t, other, n, 0, api.ErrRange)
		}
	}
}

// client: one who takes leases: till when it has one, as it knows, and with which token.
type client struct{ till, token int }

// clients who take a lease, and write behind a fence, as time goes on.
type clients struct {
	t     *testing.T
	lease api.Lease
	fence api.Fence
	all   [5]client
	now   int
	// greatest token that was given, and how often something was so
	greatest, news, longer, given, refused, stale int
}

// take a lease, which nobody else may have.
func (c *clients) take(who, term int) {
	next, e := Take(c.lease, who, c.now, term)
	for other, x := range c.all {
		if e == api.OK && other != who && c.now < x.till {
			c.t.Fatalf("at %d both %d and %d hold %v", c.now, who, other, next)
		}
	}
	if e != api.OK {
		c.refused++
		return
	}
	if c.now >= c.all[who].till {
		if next.Token <= c.greatest {
			c.t.Fatalf("at %d a lease of %d: %v", c.now, c.greatest, next)
		}
		c.greatest = next.Token
		c.news++
	} else {
		c.longer++
	}
	c.lease, c.all[who] = next, client{next.Till, next.Token}
}

// give the lease back, if it is who's own.
func (c *clients) give(who int) {
	next, e := Give(c.lease, who, c.all[who].token, c.now)
	if holds := c.now < c.all[who].till; holds != (e == api.OK) {
		c.t.Fatalf("at %d %d gives %v: %d", c.now, who, c.lease, e)
	}
	if e == api.OK {
		c.lease, c.all[who].till = next, c.now
		c.given++
	}
}

// write with the token that who had last, though the lease may be another one's by now.
func (c *clients) write(who int) {
	token, seen := c.all[who].token, c.fence.Seen
	next, e := Pass(c.fence, token)
	if (token >= seen) != (e == api.OK) {
		c.t.Fatalf("%d behind %d: %d", token, seen, e)
	}
	if e == api.OK {
		c.fence = next
	} else {
		c.stale++
	}
}

// holds: who holds the lease is who knows that it does.
func (c *clients) holds() {
	want := 0
	for who, x := range c.all {
		if c.now < x.till {
			want = who
		}
	}
	if got, e := Held(c.lease, c.now); got != want || e != api.OK {
		c.t.Fatalf("at %d %v is held by %d, %d, want %d", c.now, c.lease, got, e, want)
	}
}

// Q5: no two hold it at once, tokens grow, and behind a write nobody of a lesser token gets through.
func TestNoTwoHoldIt(t *testing.T) {
	d := draw(1)
	c := &clients{t: t}
	for range 20000 {
		c.now += d.below(4)
		who := 1 + d.below(4)
		switch d.below(8) {
		case 0, 1, 2:
			c.take(who, 1+d.below(12))
		case 3:
			c.give(who)
		case 4, 5:
			c.write(who)
		}
		c.holds()
	}
	if c.news < 500 || c.longer < 500 || c.given < 300 || c.refused < 500 || c.stale < 500 {
		t.Errorf("only so many: %d, %d, %d, %d, %d", c.news, c.longer, c.given, c.refused, c.stale)
	}
}

// P3: calls between change no answer.
func TestAnswersStay(t *testing.T) {
	l := api.Lease{Holder: 7, Till: 100, Token: 4}
	for range 3 {
		taken(t, l, 7, 90, 20, api.Lease{Holder: 7, Till: 110, Token: 4}, api.OK)
		taken(t, l, 8, 90, 20, api.Lease{}, api.ErrState)
		given(t, l, 7, 4, 90, api.Lease{Till: 90, Token: 4}, api.OK)
		held(t, l, 90, 7, api.OK)
		passed(t, 4, 9, 9, api.OK)
		passed(t, 4, 4, 4, api.OK)
	}
}

// P1: no call panics, whatever it is handed; with an error the rest is zero, and without one there is a lease.
func TestNoPanic(t *testing.T) {
	d := draw(2)
	odd := func() int {
		if d.below(8) > 0 {
			return d.below(4)
		}
		return []int{math.MinInt, -1, 999, 1000, 1001, 10000, 10001, api.MaxTime, api.MaxTime + 1, math.MaxInt}[d.below(10)]
	}
	took, gave := 0, 0
	for range 50000 {
		l := api.Lease{Holder: odd(), Till: odd(), Token: odd()}
		a, b, c := odd(), odd(), odd()
		x, e := Take(l, a, b, c)
		y, f := Give(l, a, b, c)
		h, g := Held(l, a)
		z, i := Pass(api.Fence{Seen: a}, b)
		if e != api.OK && x != (api.Lease{}) || f != api.OK && y != (api.Lease{}) || g != api.OK && h != 0 || i != api.OK && z.Seen != 0 {
			t.Fatalf("%v, %d, %d, %d: %v %d, %v %d, %d %d, %v %d", l, a, b, c, x, e, y, f, h, g, z, i)
		}
		if Check(x) != api.OK || Check(y) != api.OK {
			t.Fatalf("%v, %d, %d, %d: %v, %v", l, a, b, c, x, y)
		}
		if e == api.OK {
			took++
		}
		if f == api.OK {
			gave++
		}
	}
	if took < 1000 || gave < 300 {
		t.Errorf("only %d were taken, %d given", took, gave)
	}
}
