package matrix

import (
	"bytes"
	"math"
	"slices"
	"testing"

	"supercargo/api"
	"supercargo/field"
)

// draw gives the same numbers each time.
type draw uint64

func (d *draw) below(n int) int {
	*d = *d*6364136223846793005 + 1442695040888963407
	return int(uint64(*d) >> 33 % uint64(n))
}

// matrix of so many rows and columns; the bytes are from 0 to most.
func (d *draw) matrix(rows, cols, most int) [][]byte {
	m := zeros(rows, cols)
	for _, row := range m {
		for k := range row {
			row[k] = byte(d.below(most + 1))
		}
	}
	return m
}

// size from 1 to MaxSize.
func (d *draw) size() int { return 1 + d.below(api.MaxSize) }

// places: so many of n, that all differ, in rising order.
func (d *draw) places(many, n int) []int {
	var at []int
	for i := range n {
		if d.below(n-i) < many-len(at) {
			at = append(at, i)
		}
	}
	return at
}

func zeros(rows, cols int) [][]byte {
	m := make([][]byte, rows)
	for i := range m {
		m[i] = make([]byte, cols)
	}
	return m
}

func same(a, b [][]byte) bool { return slices.EqualFunc(a, b, bytes.Equal) }

func copyOf(m [][]byte) [][]byte {
	out := make([][]byte, len(m))
	for i, row := range m {
		out[i] = bytes.Clone(row)
	}
	return out
}

func mustMul(t *testing.T, a, b [][]byte) [][]byte {
	t.Helper()
	m, e := Mul(a, b)
	if e != api.OK {
		t.Fatalf("Mul(%v, %v): %d", a, b, e)
	}
	return m
}

func mustUnit(t *testing.T, n int) [][]byte {
	t.Helper()
	m, e := Unit(n)
	if e != api.OK {
		t.Fatalf("Unit(%d): %d", n, e)
	}
	return m
}

func mustCauchy(t *testing.T, rows, cols int) [][]byte {
	t.Helper()
	m, e := Cauchy(rows, cols)
	if e != api.OK {
		t.Fatalf("Cauchy(%d, %d): %d", rows, cols, e)
	}
	return m
}

// part of m: these rows and columns.
func part(m [][]byte, rows, cols []int) [][]byte {
	out := zeros(len(rows), len(cols))
	for i, row := range rows {
		for k, col := range cols {
			out[i][k] = m[row][col]
		}
	}
	return out
}

// others of n places: all but this one.
func others(place, n int) []int {
	var at []int
	for i := range n {
		if i != place {
			at = append(at, i)
		}
	}
	return at
}

// determinant along the first row: another way than by sums of rows.
func determinant(m [][]byte) byte {
	if len(m) == 0 {
		return 1
	}
	sum := byte(0)
	for k, factor := range m[0] {
		sum ^= field.Mul(factor, determinant(part(m, others(0, len(m)), others(k, len(m)))))
	}
	return sum
}

// choices of so many of n places, each in rising order.
func choices(many, n int) [][]int {
	if many == 0 {
		return [][]int{nil}
	}
	var all [][]int
	for last := many - 1; last < n; last++ {
		for _, head := range choices(many-1, last) {
			all = append(all, append(slices.Clone(head), last))
		}
	}
	return all
}

// rankByParts: the size of the greatest square part that has a determinant: another way than Rank's.
func rankByParts(m [][]byte) int {
	for n := min(len(m), len(m[0])); n > 0; n-- {
		for _, rows := range choices(n, len(m)) {
			for _, cols := range choices(n, len(m[0])) {
				if determinant(part(m, rows, cols)) != 0 {
					return n
				}
			}
		}
	}
	return 0
}

// wrongs: what is no matrix, and what Check is to answer.
func wrongs() []struct {
	m    [][]byte
	want api.Errno
} {
	long, empty, row := make([]byte, api.MaxSize+1), []byte{}, []byte{1, 2}
	return []struct {
		m    [][]byte
		want api.Errno
	}{
		{nil, api.ErrForm},
		{[][]byte{}, api.ErrForm},
		{[][]byte{nil}, api.ErrForm},
		{[][]byte{empty}, api.ErrForm},
		{[][]byte{empty, empty}, api.ErrForm},
		{[][]byte{row, {1}}, api.ErrForm},
		{[][]byte{row, {1, 2, 3}}, api.ErrForm},
		{[][]byte{row, row, nil}, api.ErrForm},
		{[][]byte{long}, api.ErrMany},
		{[][]byte{long, long}, api.ErrMany},
		{[][]byte{row, long}, api.ErrMany},
		{[][]byte{row, long, empty}, api.ErrMany},
		{[][]byte{row, empty, long}, api.ErrForm},
		{[][]byte{row, {1}, long}, api.ErrForm},
		{[][]byte{empty, long}, api.ErrForm},
		{[][]byte{long, empty}, api.ErrMany},
		{make([][]byte, api.MaxSize), api.ErrForm},
		{make([][]byte, api.MaxSize+1), api.ErrMany},
		{zeros(api.MaxSize+1, 1), api.ErrMany},
		{zeros(1000, 1000), api.ErrMany},
	}
}

// C1: rows, all equally long, up to MaxSize of them and up to MaxSize long.
func TestCheckOfMatrices(t *testing.T) {
	for rows := 1; rows <= api.MaxSize; rows++ {
		for cols := 1; cols <= api.MaxSize; cols++ {
			if e := Check(zeros(rows, cols)); e != api.OK {
				t.Errorf("%d by %d: %d", rows, cols, e)
			}
		}
	}
}

// C1: ErrMany and ErrForm, that of the first row of which something is wrong.
func TestCheckOfWrongInputs(t *testing.T) {
	for _, c := range wrongs() {
		if e := Check(c.m); e != c.want {
			t.Errorf("Check(%v) = %d, want %d", c.m, e, c.want)
		}
	}
}

// C1: 1 where row and column are the same, else 0.
func TestUnit(t *testing.T) {
	for n := 1; n <= api.MaxSize; n++ {
		want := zeros(n, n)
		for i := range want {
			want[i][i] = 1
		}
		if got := mustUnit(t, n); !same(got, want) {
			t.Errorf("Unit(%d) = %v", n, got)
		}
	}
}

// C1, P1: ErrRange, and nothing else, if n is not from 1 to MaxSize.
func TestUnitOutOfRange(t *testing.T) {
	for _, n := range []int{math.MinInt, -1, 0, api.MaxSize + 1, math.MaxInt} {
		if got, e := Unit(n); len(got) != 0 || e != api.ErrRange {
			t.Errorf("Unit(%d) = %v, %d", n, got, e)
		}
	}
}

// C2: each place has the sum of products.
func TestMulPlaceByPlace(t *testing.T) {
	d := draw(1)
	for range 200 {
		a := d.matrix(d.size(), d.size(), 255)
		b := d.matrix(len(a[0]), d.size(), 255)
		want := zeros(len(a), len(b[0]))
		for by, row := range b {
			for k, factor := range row {
				for i := range a {
					want[i][k] ^= field.Mul(factor, a[i][by])
				}
			}
		}
		if got := mustMul(t, a, b); !same(got, want) {
			t.Fatalf("Mul(%v, %v) = %v, want %v", a, b, got, want)
		}
	}
}

// C1, C2: a Unit changes nothing, from either side.
func TestMulByUnit(t *testing.T) {
	d := draw(2)
	for range 50 {
		a := d.matrix(d.size(), d.size(), 255)
		if got := mustMul(t, mustUnit(t, len(a)), a); !same(got, a) {
			t.Fatalf("Unit times %v = %v", a, got)
		}
		if got := mustMul(t, a, mustUnit(t, len(a[0]))); !same(got, a) {
			t.Fatalf("%v times Unit = %v", a, got)
		}
	}
}

// C2, P1: Check of a, then of b, then ErrForm, and nothing else.
func TestMulOfWrongInputs(t *testing.T) {
	good := zeros(2, 3)
	for _, c := range wrongs() {
		if got, e := Mul(c.m, good); len(got) != 0 || e != c.want {
			t.Errorf("Mul(%v, good) = %v, %d, want %d", c.m, got, e, c.want)
		}
		if got, e := Mul(good, c.m); len(got) != 0 || e != c.want {
			t.Errorf("Mul(good, %v) = %v, %d, want %d", c.m, got, e, c.want)
		}
		for _, other := range wrongs() {
			if got, e := Mul(c.m, other.m); len(got) != 0 || e != c.want {
				t.Errorf("Mul(%v, %v) = %v, %d, want %d", c.m, other.m, got, e, c.want)
			}
		}
	}
	for _, b := range [][][]byte{zeros(2, 3), zeros(2, 2), zeros(1, 3), zeros(4, 3)} {
		if got, e := Mul(good, b); len(got) != 0 || e != api.ErrForm {
			t.Errorf("Mul of 3 columns and %d rows = %v, %d", len(b), got, e)
		}
	}
}

// checkInverse: C2 of a square a.
func checkInverse(t *testing.T, a [][]byte, is bool) {
	t.Helper()
	got, e := Inverse(a)
	if !is {
		if len(got) != 0 || e != api.ErrNone {
			t.Fatalf("Inverse(%v) = %v, %d, want none", a, got, e)
		}
		return
	}
	if e != api.OK {
		t.Fatalf("Inverse(%v): %d", a, e)
	}
	unit := mustUnit(t, len(a))
	if !same(mustMul(t, got, a), unit) || !same(mustMul(t, a, got), unit) {
		t.Fatalf("Inverse(%v) = %v", a, got)
	}
}

// C2: there is an inverse just where there is a determinant. Of few bytes many have none.
func TestInverseOfSmallOnes(t *testing.T) {
	d := draw(3)
	none := 0
	for range 2000 {
		n := 1 + d.below(4)
		a := d.matrix(n, n, []int{1, 3, 255}[d.below(3)])
		is := determinant(a) != 0
		checkInverse(t, a, is)
		if !is {
			none++
		}
	}
	if none < 200 || none > 1800 {
		t.Errorf("%d of 2000 have none: too few of one kind", none)
	}
}

// C2: up to MaxSize, with noughts where the rows must be changed for each other.
func TestInverseOfLargeOnes(t *testing.T) {
	d := draw(4)
	for n := 1; n <= api.MaxSize; n++ {
		turned := zeros(n, n)
		lower := d.matrix(n, n, 255)
		for i := range n {
			turned[i][(i+n/2)%n] = byte(1 + d.below(255))
			lower[i][i] = byte(1 + d.below(255))
			clear(lower[i][i+1:])
		}
		checkInverse(t, turned, true)
		checkInverse(t, lower, true)
		checkInverse(t, mustMul(t, turned, lower), true)
		if n > 1 {
			bad := mustMul(t, turned, lower)
			for k := range n {
				bad[n-1][k] = field.Mul(bad[0][k], 7) ^ field.Mul(bad[n-2][k], 5)
			}
			checkInverse(t, bad, false)
		}
	}
}

// C2, P1: Check, then ErrForm, then ErrNone, and nothing else.
func TestInverseOfWrongInputs(t *testing.T) {
	for _, c := range wrongs() {
		if got, e := Inverse(c.m); len(got) != 0 || e != c.want {
			t.Errorf("Inverse(%v) = %v, %d, want %d", c.m, got, e, c.want)
		}
	}
	for _, a := range [][][]byte{zeros(1, 2), zeros(2, 1), zeros(3, 2), zeros(16, 15), zeros(15, 16)} {
		if got, e := Inverse(a); len(got) != 0 || e != api.ErrForm {
			t.Errorf("Inverse(%v) = %v, %d", a, got, e)
		}
	}
	for n := 1; n <= api.MaxSize; n++ {
		checkInverse(t, zeros(n, n), false)
	}
}

// C2: Rank, of matrices of every small form.
func TestRankOfSmallOnes(t *testing.T) {
	d := draw(5)
	for range 1000 {
		a := d.matrix(1+d.below(4), 1+d.below(4), []int{0, 1, 2, 255}[d.below(4)])
		got, e := Rank(a)
		if want := rankByParts(a); e != api.OK || got != want {
			t.Fatalf("Rank(%v) = %d, %d, want %d", a, got, e, want)
		}
	}
}

// C2: rows that are sums of multiples of others do not count.
func TestRankOfLargeOnes(t *testing.T) {
	d := draw(6)
	for want := range api.MaxSize + 1 {
		a := zeros(api.MaxSize, api.MaxSize)
		for i := range want {
			copy(a[i], mustCauchy(t, api.MaxSize, api.MaxSize)[i])
		}
		for i := want; want > 0 && i < api.MaxSize; i++ {
			one, other, factor := d.below(want), d.below(want), byte(d.below(256))
			for k := range a[i] {
				a[i][k] = field.Mul(a[one][k], factor) ^ a[other][k]
			}
		}
		slices.Reverse(a)
		if got, e := Rank(a); e != api.OK || got != want {
			t.Errorf("Rank = %d, %d, want %d", got, e, want)
		}
	}
}

// C2, P1: Check, and nothing else.
func TestRankOfWrongInputs(t *testing.T) {
	for _, c := range wrongs() {
		if got, e := Rank(c.m); got != 0 || e != c.want {
			t.Errorf("Rank(%v) = %d, %d, want %d", c.m, got, e, c.want)
		}
	}
}

// C3: what 1 divided by the sum of i and rows + k is.
func TestCauchyPlaceByPlace(t *testing.T) {
	for rows := 1; rows <= api.MaxSize; rows++ {
		for cols := 1; cols <= api.MaxSize; cols++ {
			got := mustCauchy(t, rows, cols)
			if len(got) != rows {
				t.Fatalf("Cauchy(%d, %d) has %d rows", rows, cols, len(got))
			}
			for i, row := range got {
				if len(row) != cols {
					t.Fatalf("row %d of Cauchy(%d, %d) is %v", i, rows, cols, row)
				}
				for k, one := range row {
					if field.Mul(one, byte(i)^byte(rows+k)) != 1 {
						t.Fatalf("Cauchy(%d, %d) has %d in row %d and column %d", rows, cols, one, i, k)
					}
				}
			}
		}
	}
}

// C3, P1: ErrRange, and nothing else, if rows or cols is not from 1 to MaxSize.
func TestCauchyOutOfRange(t *testing.T) {
	for _, n := range []int{math.MinInt, -1, 0, api.MaxSize + 1, math.MaxInt} {
		for _, c := range [][2]int{{n, 1}, {1, n}, {n, n}, {n, api.MaxSize}, {api.MaxSize, n}} {
			if got, e := Cauchy(c[0], c[1]); len(got) != 0 || e != api.ErrRange {
				t.Errorf("Cauchy(%d, %d) = %v, %d", c[0], c[1], got, e)
			}
		}
	}
}

// C3: rows of places, in their order, and more than once, if they are asked for so.
func TestRows(t *testing.T) {
	a := [][]byte{{1, 2}, {3, 4}, {5, 6}}
	for _, c := range []struct {
		at   []int
		want [][]byte
	}{
		{[]int{0}, [][]byte{{1, 2}}},
		{[]int{2}, [][]byte{{5, 6}}},
		{[]int{2, 0, 1}, [][]byte{{5, 6}, {1, 2}, {3, 4}}},
		{[]int{1, 1, 1, 1}, [][]byte{{3, 4}, {3, 4}, {3, 4}, {3, 4}}},
	} {
		if got, e := Rows(a, c.at); e != api.OK || !same(got, c.want) {
			t.Errorf("Rows(%v) = %v, %d, want %v", c.at, got, e, c.want)
		}
	}
	if got, e := Rows(a, make([]int, api.MaxSize)); e != api.OK || len(got) != api.MaxSize {
		t.Errorf("MaxSize places make %v, %d", got, e)
	}
}

// C3, P1: Check, then ErrMany, ErrForm and ErrRange, and nothing else.
func TestRowsOfWrongInputs(t *testing.T) {
	many := make([]int, api.MaxSize+1)
	for _, c := range wrongs() {
		for _, at := range [][]int{nil, {0}, {-1}, many} {
			if got, e := Rows(c.m, at); len(got) != 0 || e != c.want {
				t.Errorf("Rows(%v, %v) = %v, %d, want %d", c.m, at, got, e, c.want)
			}
		}
	}
	wide := slices.Repeat([]int{-1}, api.MaxSize+1)
	for _, c := range []struct {
		at   []int
		want api.Errno
	}{
		{many, api.ErrMany},
		{wide, api.ErrMany},
		{nil, api.ErrForm},
		{[]int{}, api.ErrForm},
		{[]int{3}, api.ErrRange},
		{[]int{-1}, api.ErrRange},
		{[]int{0, 1, 2, 3}, api.ErrRange},
		{[]int{math.MinInt, 0}, api.ErrRange},
		{[]int{0, math.MaxInt}, api.ErrRange},
	} {
		if got, e := Rows(zeros(3, 5), c.at); len(got) != 0 || e != c.want {
			t.Errorf("Rows(%v) = %v, %d, want %d", c.at, got, e, c.want)
		}
	}
}

// C4: every square part of small ones has an inverse.
func TestPartsOfSmallCauchies(t *testing.T) {
	for rows := 1; rows <= 6; rows++ {
		for cols := 1; cols <= 6; cols++ {
			m := mustCauchy(t, rows, cols)
			for n := 1; n <= min(rows, cols); n++ {
				for _, at := range choices(n, rows) {
					for _, by := range choices(n, cols) {
						checkInverse(t, part(m, at, by), true)
					}
				}
			}
		}
	}
}

// C4: so have parts of great ones, and the whole one.
func TestPartsOfGreatCauchies(t *testing.T) {
	d := draw(7)
	whole := mustCauchy(t, api.MaxSize, api.MaxSize)
	checkInverse(t, whole, true)
	for range 300 {
		n := d.size()
		checkInverse(t, part(whole, d.places(n, api.MaxSize), d.places(n, api.MaxSize)), true)
	}
}

// answers of all calls of a and b, row by row.
func answers(a, b [][]byte) [][]byte {
	product, _ := Mul(a, b)
	inverse, _ := Inverse(a)
	rank, e := Rank(b)
	rows, _ := Rows(a, []int{1, 0, 1})
	unit, _ := Unit(3)
	cauchy, _ := Cauchy(3, 2)
	told := [][]byte{{byte(rank), byte(e), byte(Check(a))}}
	return slices.Concat(product, inverse, rows, unit, cauchy, told)
}

// roomy: a copy with spare room behind the rows, and behind each of them.
func roomy(m [][]byte) [][]byte {
	out := make([][]byte, 0, len(m)+4)
	for _, row := range m {
		out = append(out, append(make([]byte, 0, len(row)+4), row...))
	}
	return out
}

// whole: m with the spare room, as it is now.
func whole(m [][]byte) [][]byte {
	out := copyOf(m[:cap(m)])
	for i, row := range m {
		out[i] = bytes.Clone(row[:cap(row)])
	}
	return out
}

// scribble over rows and the spare room behind them.
func scribble(m [][]byte) {
	for _, row := range m {
		row = row[:cap(row)]
		for i := range row {
			row[i] ^= 0xa5
		}
	}
}

// pair of matrices of which each call answers something.
func pair() (a, b [][]byte) {
	return [][]byte{{0, 2, 3}, {4, 0, 6}, {7, 8, 9}}, [][]byte{{1, 2}, {2, 4}, {3, 6}}
}

// P2: what is handed in, and the spare room behind it, is only read.
func TestArgumentsAreOnlyRead(t *testing.T) {
	a, b := pair()
	a, b = roomy(a), roomy(b)
	wasA, wasB := whole(a), whole(b)
	answers(a, b)
	if !same(whole(a), wasA) || !same(whole(b), wasB) {
		t.Errorf("%v and %v were %v and %v", whole(a), whole(b), wasA, wasB)
	}
	at := append(make([]int, 0, 5), 2, 0)
	Rows(a, at)
	if !slices.Equal(at[:5], []int{2, 0, 0, 0, 0}) {
		t.Errorf("places are %v now", at[:5])
	}
}

// P2: answers share no memory with arguments, nor rows with each other, even if the rows of an argument do.
func TestAnswersAreNewMemory(t *testing.T) {
	a, b := pair()
	got := answers(a, b)
	want := copyOf(got)
	scribble(a)
	scribble(b)
	if !same(got, want) {
		t.Fatalf("an answer changed with an argument: %v, was %v", got, want)
	}
	for i := range got {
		scribble(got[i : i+1])
		if !same(got[i+1:], want[i+1:]) {
			t.Errorf("rows changed with row %d: %v, were %v", i, got[i+1:], want[i+1:])
		}
	}
	row := []byte{1, 2}
	twice := mustMul(t, mustUnit(t, 2), [][]byte{row, row})
	scribble(twice[:1])
	if !bytes.Equal(twice[1], row) {
		t.Errorf("the second row is %v", twice[1])
	}
}

// P2: rows of an argument may be one and the same list.
func TestRowsThatShare(t *testing.T) {
	row := []byte{1, 2}
	if got, e := Rank([][]byte{row, row}); got != 1 || e != api.OK {
		t.Errorf("Rank = %d, %d", got, e)
	}
	if got, e := Inverse([][]byte{row, row}); len(got) != 0 || e != api.ErrNone {
		t.Errorf("Inverse = %v, %d", got, e)
	}
	if !bytes.Equal(row, []byte{1, 2}) {
		t.Errorf("the row is %v now", row)
	}
}

// P3: calls, and what is done to their answers, change no later answer.
func TestAnswersStay(t *testing.T) {
	a, b := pair()
	first := answers(a, b)
	want := copyOf(first)
	scribble(first)
	answers([][]byte{{1, 1}, {0, 1}}, a[:2])
	if again := answers(a, b); !same(again, want) {
		t.Errorf("first %v, then %v", want, again)
	}
}

// checkNothing: P1: with an error the matrix is empty.
func checkNothing(t *testing.T, call string, m [][]byte, e api.Errno) {
	t.Helper()
	if e != api.OK && len(m) != 0 {
		t.Fatalf("%s: %v with error %d", call, m, e)
	}
}

// P1: no call panics, whatever rows it is handed; with an error the rest is empty.
func TestNoPanic(t *testing.T) {
	d := draw(8)
	ragged := func() [][]byte {
		m := d.matrix(d.below(19), 19, 255)
		cols := d.below(19)
		for i := range m {
			m[i] = m[i][:cols]
			if d.below(20) == 0 {
				m[i] = m[i][:d.below(cols+1)]
			}
		}
		return m
	}
	for range 2000 {
		a, b := ragged(), ragged()
		at := make([]int, d.below(19))
		for i := range at {
			at[i] = d.below(20) - 1
		}
		product, e := Mul(a, b)
		checkNothing(t, "Mul", product, e)
		inverse, e := Inverse(a)
		checkNothing(t, "Inverse", inverse, e)
		rows, e := Rows(a, at)
		checkNothing(t, "Rows", rows, e)
		if rank, e := Rank(a); e != Check(a) || e != api.OK && rank != 0 {
			t.Fatalf("Rank(%v) = %d, %d", a, rank, e)
		}
	}
}
