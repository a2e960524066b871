package poly

import (
	"bytes"
	"testing"

	"supercargo/api"
	"supercargo/field"
)

// draw gives the same numbers each time.
type draw uint64

func (d *draw) below(n int) int {
	*d = *d*6364136223846793005 + 1442695040888963407
	return int(uint64(*d) >> 33 % uint64(n))
}

// list of up to most bytes; some end in noughts.
func (d *draw) list(most int) []byte {
	p := make([]byte, d.below(most+1))
	for i := range p {
		p[i] = byte(d.below(256))
	}
	if d.below(3) == 0 {
		clear(p[len(p)/2:])
	}
	return p
}

// places: n bytes that all differ.
func (d *draw) places(n int) []byte {
	all := make([]byte, 256)
	for i := range all {
		all[i] = byte(i)
	}
	for i := range n {
		k := i + d.below(256-i)
		all[i], all[k] = all[k], all[i]
	}
	return all[:n]
}

// valueByPowers adds factors times powers of x: another way than Value's.
func valueByPowers(p []byte, x byte) byte {
	sum, power := byte(0), byte(1)
	for _, factor := range p {
		sum ^= field.Mul(factor, power)
		power = field.Mul(power, x)
	}
	return sum
}

func trimmed(p []byte) bool { return len(p) == 0 || p[len(p)-1] != 0 }

func sum(p, q []byte) []byte {
	out := make([]byte, max(len(p), len(q)))
	copy(out, p)
	for i, factor := range q {
		out[i] ^= factor
	}
	return Trim(out)
}

// B1: Trim takes away the noughts at the end, and no others.
func TestTrim(t *testing.T) {
	for _, c := range []struct{ p, want []byte }{
		{nil, nil},
		{[]byte{}, nil},
		{[]byte{0}, nil},
		{[]byte{0, 0, 0}, nil},
		{[]byte{7}, []byte{7}},
		{[]byte{0, 7}, []byte{0, 7}},
		{[]byte{0, 7, 0, 0}, []byte{0, 7}},
		{[]byte{1, 0, 2, 0}, []byte{1, 0, 2}},
	} {
		if got := Trim(c.p); !bytes.Equal(got, c.want) {
			t.Errorf("Trim(%v) = %v, want %v", c.p, got, c.want)
		}
	}
}

// B1: Value is the sum of the factors' products with powers of x.
func TestValue(t *testing.T) {
	d := draw(1)
	for range 200 {
		p, x := d.list(80), byte(d.below(256))
		if got, want := Value(p, x), valueByPowers(p, x); got != want {
			t.Fatalf("Value(%v, %d) = %d, want %d", p, x, got, want)
		}
	}
	if Value(nil, 9) != 0 || Value([]byte{5, 6, 7}, 0) != 5 {
		t.Errorf("of nothing %d, at 0 %d", Value(nil, 9), Value([]byte{5, 6, 7}, 0))
	}
}

// B1, P4: Trim and Value take whatever list, a long one too.
func TestLongLists(t *testing.T) {
	long := make([]byte, 1<<20)
	long[0], long[1<<19] = 3, 1
	if got := Trim(long); len(got) != 1<<19+1 || got[0] != 3 {
		t.Errorf("trimmed it has %d factors", len(got))
	}
	if got, want := Value(long, 2), 3^field.Power(1<<19); got != want {
		t.Errorf("Value = %d, want %d", got, want)
	}
}

// B1: each factor of the product is the sum of products of factors.
func TestMulFactorByFactor(t *testing.T) {
	d := draw(2)
	for range 200 {
		p, q := d.list(64), d.list(64)
		want := make([]byte, len(p)+len(q))
		for i := range p {
			for k := range q {
				want[i+k] ^= field.Mul(p[i], q[k])
			}
		}
		got, e := Mul(p, q)
		if e != api.OK || !bytes.Equal(got, Trim(want)) {
			t.Fatalf("Mul(%v, %v) = %v, %d", p, q, got, e)
		}
		if !trimmed(got) {
			t.Fatalf("Mul(%v, %v) = %v is not trimmed", p, q, got)
		}
	}
}

// B1: a product of two lists of MaxList factors is whole.
func TestMulAtTheLimit(t *testing.T) {
	p := make([]byte, api.MaxList)
	p[api.MaxList-1] = 2
	got, e := Mul(p, p)
	if e != api.OK || len(got) != 2*api.MaxList-1 || got[len(got)-1] != 4 {
		t.Errorf("Mul = %v, %d", got, e)
	}
}

// B1, P1: ErrMany beyond MaxList, even if all of it were noughts, and nothing else.
func TestMulOfTooMany(t *testing.T) {
	long := make([]byte, api.MaxList+1)
	for _, c := range [][2][]byte{{long, {1}}, {{1}, long}, {long, nil}, {nil, long}, {long, long}} {
		if got, e := Mul(c[0], c[1]); len(got) != 0 || e != api.ErrMany {
			t.Errorf("Mul of %d and %d factors = %v, %d", len(c[0]), len(c[1]), got, e)
		}
	}
}

// checkDivision: B2 of a p and a q that is not 0.
func checkDivision(t *testing.T, p, q []byte) {
	t.Helper()
	quotient, rest, e := Divide(p, q)
	if e != api.OK {
		t.Fatalf("Divide(%v, %v): %d", p, q, e)
	}
	if !trimmed(quotient) || !trimmed(rest) {
		t.Fatalf("Divide(%v, %v) = %v, %v is not trimmed", p, q, quotient, rest)
	}
	if len(rest) >= len(Trim(q)) {
		t.Fatalf("Divide(%v, %v) leaves %v", p, q, rest)
	}
	back, e := Mul(q, quotient)
	if e != api.OK || !bytes.Equal(sum(back, rest), Trim(p)) {
		t.Fatalf("Divide(%v, %v) = %v, %v", p, q, quotient, rest)
	}
}

// B2: q times the quotient, and the rest, are p, and the rest is the lesser one.
func TestDivideComesBack(t *testing.T) {
	d := draw(3)
	for range 500 {
		p, q := d.list(64), d.list(d.below(65))
		if len(Trim(q)) > 0 {
			checkDivision(t, p, q)
		}
	}
	for _, c := range [][2][]byte{
		{nil, {1}},
		{{0, 0, 0}, {0, 9}},
		{{1, 2, 3}, {7, 0, 0, 0}},
		{{1, 2}, {1, 2, 3}},
		{{1, 2, 3}, {1, 2, 3}},
		{{4, 5, 6, 0}, {0, 3, 0}},
	} {
		checkDivision(t, c[0], c[1])
	}
}

// B2: of a product by one of both the other one comes, and no rest.
func TestDivideOfAProduct(t *testing.T) {
	d := draw(4)
	for range 200 {
		p, q := d.list(32), d.list(32)
		if len(Trim(q)) == 0 {
			continue
		}
		product, _ := Mul(p, q)
		quotient, rest, e := Divide(product, q)
		if e != api.OK || len(rest) != 0 || !bytes.Equal(quotient, Trim(p)) {
			t.Fatalf("Divide(%v, %v) = %v, %v, %d", product, q, quotient, rest, e)
		}
	}
}

// B2, P1: ErrMany comes first, then ErrNone; with both nothing else comes.
func TestDivideWrongInputs(t *testing.T) {
	long := make([]byte, api.MaxList+1)
	for _, c := range []struct {
		p, q []byte
		want api.Errno
	}{
		{long, []byte{1}, api.ErrMany},
		{[]byte{1}, long, api.ErrMany},
		{long, nil, api.ErrMany},
		{[]byte{1, 2}, nil, api.ErrNone},
		{[]byte{1, 2}, []byte{0}, api.ErrNone},
		{nil, make([]byte, api.MaxList), api.ErrNone},
	} {
		quotient, rest, e := Divide(c.p, c.q)
		if len(quotient) != 0 || len(rest) != 0 || e != c.want {
			t.Errorf("Divide(%v, %v) = %v, %v, %d, want %d", c.p, c.q, quotient, rest, e, c.want)
		}
	}
}

// B3: it has the values at the places, and no more factors than there are places.
func TestMeetHasTheValues(t *testing.T) {
	d := draw(5)
	for n := range api.MaxList + 1 {
		xs, ys := d.places(n), make([]byte, n)
		for i := range ys {
			ys[i] = byte(d.below(256))
		}
		got, e := Meet(xs, ys)
		if e != api.OK || len(got) > n || !trimmed(got) {
			t.Fatalf("Meet(%v, %v) = %v, %d", xs, ys, got, e)
		}
		for i, x := range xs {
			if Value(got, x) != ys[i] {
				t.Fatalf("Meet(%v, %v) is %d at %d", xs, ys, Value(got, x), x)
			}
		}
	}
}

// B3: values that fewer factors tell come trimmed.
func TestMeetIsTrimmed(t *testing.T) {
	if got, e := Meet([]byte{1, 2, 3}, []byte{0, 0, 0}); e != api.OK || len(got) != 0 {
		t.Errorf("of noughts: %v, %d", got, e)
	}
	if got, e := Meet([]byte{0, 8, 200}, []byte{0, 8, 200}); e != api.OK || !bytes.Equal(got, []byte{0, 1}) {
		t.Errorf("of x: %v, %d", got, e)
	}
}

// B3, P1: ErrMany, then ErrForm, then ErrTwice, and nothing else.
func TestMeetWrongInputs(t *testing.T) {
	long := make([]byte, api.MaxList+1)
	for _, c := range []struct {
		xs, ys []byte
		want   api.Errno
	}{
		{long, long, api.ErrMany},
		{long, nil, api.ErrMany},
		{[]byte{1, 2}, long, api.ErrForm},
		{[]byte{1, 2}, []byte{1}, api.ErrForm},
		{[]byte{1, 1}, []byte{1}, api.ErrForm},
		{nil, []byte{1}, api.ErrForm},
		{[]byte{1}, nil, api.ErrForm},
		{[]byte{0, 0}, []byte{0, 0}, api.ErrTwice},
		{[]byte{1, 2, 1}, []byte{1, 2, 1}, api.ErrTwice},
		{[]byte{9, 1, 2, 2}, []byte{1, 2, 3, 4}, api.ErrTwice},
		{long[:api.MaxList], long[:api.MaxList], api.ErrTwice},
	} {
		if got, e := Meet(c.xs, c.ys); len(got) != 0 || e != c.want {
			t.Errorf("Meet(%v, %v) = %v, %d, want %d", c.xs, c.ys, got, e, c.want)
		}
	}
}

// B4: whichever places are taken, as many values as factors tell the polynomial.
func TestValuesTellAPolynomial(t *testing.T) {
	d := draw(6)
	for range 200 {
		p := d.list(64)
		xs := d.places(len(p))
		ys := make([]byte, len(p))
		for i, x := range xs {
			ys[i] = Value(p, x)
		}
		if got, e := Meet(xs, ys); e != api.OK || !bytes.Equal(got, Trim(p)) {
			t.Fatalf("at %v %v comes as %v, %d", xs, p, got, e)
		}
	}
}

// answers of all calls of p and q, in one list each.
func answers(p, q []byte) [][]byte {
	product, _ := Mul(p, q)
	quotient, rest, _ := Divide(p, q)
	met, _ := Meet(p, q)
	return [][]byte{Trim(p), Trim(q), product, quotient, rest, met, {Value(p, 3)}}
}

func copies(lists [][]byte) [][]byte {
	out := make([][]byte, len(lists))
	for i, list := range lists {
		out[i] = bytes.Clone(list)
	}
	return out
}

func same(a, b [][]byte) bool {
	for i := range a {
		if !bytes.Equal(a[i], b[i]) {
			return false
		}
	}
	return len(a) == len(b)
}

// scribble over a list and the spare room behind it.
func scribble(list []byte) {
	list = list[:cap(list)]
	for i := range list {
		list[i] ^= 0xa5
	}
}

// P2: what is handed in, and the spare room behind it, is only read.
func TestArgumentsAreOnlyRead(t *testing.T) {
	p := append(make([]byte, 0, 16), 1, 2, 3, 4, 0)
	q := append(make([]byte, 0, 16), 9, 0, 5, 7, 6)
	before := copies([][]byte{p[:16], q[:16]})
	answers(p, q)
	answers(q, p)
	if !same(before, [][]byte{p[:16], q[:16]}) {
		t.Errorf("%v and %v were %v", p[:16], q[:16], before)
	}
}

// P2: answers share no memory with arguments, nor with each other.
func TestAnswersAreNewMemory(t *testing.T) {
	p, q := []byte{1, 2, 3, 4, 5}, []byte{9, 0, 5}
	got := answers(p, q)
	want := copies(got)
	scribble(p)
	scribble(q)
	if !same(got, want) {
		t.Fatalf("an answer changed with an argument: %v, was %v", got, want)
	}
	for i := range got {
		scribble(got[i])
		for k := i + 1; k < len(got); k++ {
			if !bytes.Equal(got[k], want[k]) {
				t.Errorf("answer %d changed with answer %d", k, i)
			}
		}
	}
}

// P3: calls, and what is done to their answers, change no later answer.
func TestAnswersStay(t *testing.T) {
	p, q := []byte{1, 2, 3, 4}, []byte{9, 0, 5, 1}
	first := answers(p, q)
	want := copies(first)
	for _, list := range first {
		scribble(list)
	}
	answers(q, p)
	if again := answers(p, q); !same(again, want) {
		t.Errorf("first %v, then %v", want, again)
	}
}

// P2: an empty list may be nil or not.
func TestEmptyListsAreAlike(t *testing.T) {
	for _, p := range [][]byte{nil, {}} {
		for _, q := range [][]byte{nil, {}} {
			if got, e := Mul(p, q); len(got) != 0 || e != api.OK {
				t.Errorf("Mul = %v, %d", got, e)
			}
			if got, e := Meet(p, q); len(got) != 0 || e != api.OK {
				t.Errorf("Meet = %v, %d", got, e)
			}
			if a, b, e := Divide(p, q); len(a) != 0 || len(b) != 0 || e != api.ErrNone {
				t.Errorf("Divide = %v, %v, %d", a, b, e)
			}
		}
	}
}

// P1: no call panics, whatever it is handed; with an error the rest is empty.
func TestNoPanic(t *testing.T) {
	d := draw(7)
	for range 2000 {
		p, q := d.list(70), d.list(70)
		Trim(p)
		Value(p, byte(d.below(256)))
		if got, e := Mul(p, q); e != api.OK && len(got) != 0 {
			t.Fatalf("Mul(%v, %v) = %v, %d", p, q, got, e)
		}
		if a, b, e := Divide(p, q); e != api.OK && len(a)+len(b) != 0 {
			t.Fatalf("Divide(%v, %v) = %v, %v, %d", p, q, a, b, e)
		}
		if got, e := Meet(p, q); e != api.OK && len(got) != 0 {
			t.Fatalf("Meet(%v, %v) = %v, %d", p, q, got, e)
		}
	}
}
