package code

import (
	"math"
	"slices"
	"strings"
	"testing"

	"supercargo/api"
	"supercargo/field"
)

// draw gives the same numbers each time.
type draw uint64

func (d *draw) below(n int) int {
	*d = *d*6364136223846793005 + 1442695040888963407
	return int(uint64(*d) >> 33 % uint64(n))
}

// piece of so many bytes, of any kind.
func (d *draw) piece(size int) string {
	out := make([]byte, size)
	for i := range out {
		out[i] = byte(d.below(256))
	}
	return string(out)
}

// pieces: so many, equally long.
func (d *draw) pieces(many, size int) []string {
	all := make([]string, many)
	for i := range all {
		all[i] = d.piece(size)
	}
	return all
}

// order: the numbers below n, in any order.
func (d *draw) order(n int) []int {
	at := make([]int, n)
	for i := range at {
		k := d.below(i + 1)
		at[i], at[k] = at[k], i
	}
	return at
}

func mustEncode(t *testing.T, data []string, more int) []string {
	t.Helper()
	made, e := Encode(data, more)
	if e != api.OK {
		t.Fatalf("Encode(%q, %d): %d", data, more, e)
	}
	return made
}

// all pieces: those of data, and those more behind them.
func all(t *testing.T, data []string, more int) []string {
	t.Helper()
	return slices.Concat(data, mustEncode(t, data, more))
}

// choices of so many of n numbers, each in rising order.
func choices(many, n int) [][]int {
	if many == 0 {
		return [][]int{nil}
	}
	var out [][]int
	for last := many - 1; last < n; last++ {
		for _, head := range choices(many-1, last) {
			out = append(out, append(slices.Clone(head), last))
		}
	}
	return out
}

func pick(pieces []string, at []int) []string {
	out := make([]string, len(at))
	for i, number := range at {
		out[i] = pieces[number]
	}
	return out
}

func repeat(n int) string { return strings.Repeat("x", n) }

// D1: byte by byte the sum of the data's bytes, each divided by the sum of i and more + k.
func TestEncodeByteByByte(t *testing.T) {
	d := draw(1)
	for many := 1; many <= api.MaxData; many++ {
		for more := 1; more <= api.MaxMore; more++ {
			data := d.pieces(many, d.below(api.MaxBlock+1))
			made := mustEncode(t, data, more)
			if len(made) != more {
				t.Fatalf("Encode(%q, %d) = %q", data, more, made)
			}
			for i, piece := range made {
				want := make([]byte, len(data[0]))
				for k := range data {
					for at := range want {
						part, _ := field.Divide(data[k][at], byte(i)^byte(more+k))
						want[at] ^= part
					}
				}
				if piece != string(want) {
					t.Fatalf("piece %d of Encode(%q, %d) is %q, want %q", i, data, more, piece, want)
				}
			}
		}
	}
}

// D1: pieces may be empty, and as long as MaxBlock.
func TestEncodeAtTheLimits(t *testing.T) {
	if made := mustEncode(t, make([]string, api.MaxData), api.MaxMore); !slices.Equal(made, make([]string, api.MaxMore)) {
		t.Errorf("of empty pieces: %q", made)
	}
	for i, piece := range mustEncode(t, []string{repeat(api.MaxBlock)}, api.MaxMore) {
		if len(piece) != api.MaxBlock {
			t.Errorf("piece %d has %d bytes", i, len(piece))
		}
	}
}

// D1, P1: ErrFew, ErrMany, ErrRange, ErrMany, ErrForm, in this order, and nothing else.
func TestEncodeOfWrongInputs(t *testing.T) {
	long := repeat(api.MaxBlock + 1)
	for _, c := range []struct {
		data []string
		more int
		want api.Errno
	}{
		{nil, 1, api.ErrFew},
		{[]string{}, 0, api.ErrFew},
		{nil, api.MaxMore + 1, api.ErrFew},
		{make([]string, api.MaxData+1), 1, api.ErrMany},
		{make([]string, api.MaxData+1), 0, api.ErrMany},
		{make([]string, api.MaxData+1), math.MaxInt, api.ErrMany},
		{[]string{"a"}, 0, api.ErrRange},
		{[]string{"a"}, -1, api.ErrRange},
		{[]string{"a"}, api.MaxMore + 1, api.ErrRange},
		{[]string{"a"}, math.MinInt, api.ErrRange},
		{[]string{"a"}, math.MaxInt, api.ErrRange},
		{[]string{long}, 0, api.ErrRange},
		{[]string{"a", "bc"}, 7, api.ErrRange},
		{[]string{long}, 1, api.ErrMany},
		{[]string{"a", "bc", long}, 1, api.ErrMany},
		{[]string{long, long}, 1, api.ErrMany},
		{[]string{"a", "bc"}, 1, api.ErrForm},
		{[]string{"ab", "c"}, 1, api.ErrForm},
		{[]string{"a", "b", ""}, 6, api.ErrForm},
		{[]string{"", "b"}, 6, api.ErrForm},
	} {
		if got, e := Encode(c.data, c.more); len(got) != 0 || e != c.want {
			t.Errorf("Encode(%q, %d) = %q, %d, want %d", c.data, c.more, got, e, c.want)
		}
	}
}

// checkRebuild: D2 of these pieces, whose data is known.
func checkRebuild(t *testing.T, data []string, more int, at []int, pieces []string) {
	t.Helper()
	got, e := Rebuild(len(data), more, at, pieces)
	if e != api.OK || !slices.Equal(got, data) {
		t.Fatalf("Rebuild(%d, %d, %v, %q) = %q, %d, want %q", len(data), more, at, pieces, got, e, data)
	}
}

// D2, D4: whichever as many pieces as there are of data tell all of it, of every many and more.
func TestRebuildOfWhicheverPieces(t *testing.T) {
	d := draw(2)
	for many := 1; many <= api.MaxData; many++ {
		for more := 1; more <= api.MaxMore; more++ {
			data := d.pieces(many, 3)
			pieces := all(t, data, more)
			for _, at := range choices(many, many+more) {
				checkRebuild(t, data, more, at, pick(pieces, at))
			}
		}
	}
}

// D2: in whichever order they come.
func TestRebuildInWhicheverOrder(t *testing.T) {
	d := draw(3)
	for range 300 {
		many, more := 1+d.below(api.MaxData), 1+d.below(api.MaxMore)
		data := d.pieces(many, d.below(api.MaxBlock+1))
		at := d.order(many + more)[:many]
		checkRebuild(t, data, more, at, pick(all(t, data, more), at))
	}
}

// D4: what is rebuilt, encoded, has the pieces that it was rebuilt of, whatever these are.
func TestWhateverPiecesAreMet(t *testing.T) {
	d := draw(4)
	for range 300 {
		many, more := 1+d.below(api.MaxData), 1+d.below(api.MaxMore)
		given := d.pieces(many, 2)
		at := d.order(many + more)[:many]
		data, e := Rebuild(many, more, at, given)
		if e != api.OK || len(data) != many {
			t.Fatalf("Rebuild(%d, %d, %v, %q) = %q, %d", many, more, at, given, data, e)
		}
		if back := pick(all(t, data, more), at); !slices.Equal(back, given) {
			t.Fatalf("Rebuild(%d, %d, %v, %q) = %q, of which they are %q", many, more, at, given, data, back)
		}
	}
}

// D2: pieces may be empty.
func TestRebuildOfEmptyPieces(t *testing.T) {
	checkRebuild(t, make([]string, 3), 2, []int{4, 0, 3}, make([]string, 3))
}

// D2, P1: the errors in their order, and nothing else.
func TestRebuildOfWrongInputs(t *testing.T) {
	long := repeat(api.MaxBlock + 1)
	for _, c := range []struct {
		many, more int
		at         []int
		pieces     []string
		want       api.Errno
	}{
		{0, 1, nil, nil, api.ErrRange},
		{-1, 1, []int{0}, nil, api.ErrRange},
		{api.MaxData + 1, 1, make([]int, 9), make([]string, 9), api.ErrRange},
		{math.MaxInt, 1, nil, nil, api.ErrRange},
		{1, 0, []int{0}, []string{"a"}, api.ErrRange},
		{1, api.MaxMore + 1, []int{0}, []string{"a"}, api.ErrRange},
		{1, math.MinInt, nil, []string{"a"}, api.ErrRange},
		{2, 1, []int{0}, []string{"a", "b"}, api.ErrForm},
		{2, 1, []int{0, 1}, []string{"a"}, api.ErrForm},
		{2, 1, []int{0, 1}, nil, api.ErrForm},
		{2, 1, []int{9, 9, 9}, []string{long}, api.ErrForm},
		{2, 1, nil, nil, api.ErrFew},
		{2, 1, []int{0}, []string{"a"}, api.ErrFew},
		{2, 1, []int{-1}, []string{long}, api.ErrFew},
		{2, 1, []int{0, 1, 2}, []string{"a", "b", "c"}, api.ErrMany},
		{1, 1, []int{7, 7}, []string{"a", "bc"}, api.ErrMany},
		{2, 2, []int{0, 4}, []string{"a", "b"}, api.ErrRange},
		{2, 2, []int{-1, 0}, []string{"a", "b"}, api.ErrRange},
		{2, 2, []int{math.MaxInt, math.MinInt}, []string{"a", "b"}, api.ErrRange},
		{3, 2, []int{1, 5, 1}, []string{"a", "b", "c"}, api.ErrRange},
		{3, 2, []int{1, 1, 5}, []string{"a", "b", "c"}, api.ErrTwice},
		{3, 2, []int{5, 5, 5}, []string{"a", "b", "c"}, api.ErrRange},
		{3, 2, []int{4, 0, 4}, []string{"a", "b", "c"}, api.ErrTwice},
		{2, 2, []int{3, 3}, []string{"a", "a"}, api.ErrTwice},
		{2, 2, []int{3, 3}, []string{long, "a"}, api.ErrTwice},
		{2, 2, []int{3, 4}, []string{long, "a"}, api.ErrRange},
		{2, 2, []int{3, 1}, []string{"a", long}, api.ErrMany},
		{3, 2, []int{3, 1, 2}, []string{"a", "bc", long}, api.ErrMany},
		{2, 2, []int{3, 1}, []string{long, long}, api.ErrMany},
		{2, 2, []int{3, 1}, []string{"a", "bc"}, api.ErrForm},
		{2, 2, []int{3, 1}, []string{"a", ""}, api.ErrForm},
	} {
		got, e := Rebuild(c.many, c.more, c.at, c.pieces)
		if len(got) != 0 || e != c.want {
			t.Errorf("Rebuild(%d, %d, %v, %q) = %q, %d, want %d", c.many, c.more, c.at, c.pieces, got, e, c.want)
		}
	}
}

// flip one bit of the byte at a place.
func flip(piece string, at int) string {
	out := []byte(piece)
	out[at] ^= 1
	return string(out)
}

// D3: the pieces that Encode makes are right, and with whichever byte changed they are not.
func TestVerify(t *testing.T) {
	d := draw(5)
	for many := 1; many <= api.MaxData; many++ {
		for more := 1; more <= api.MaxMore; more++ {
			pieces := all(t, d.pieces(many, 4), more)
			if is, e := Verify(pieces, more); !is || e != api.OK {
				t.Fatalf("Verify(%q, %d) = %v, %d", pieces, more, is, e)
			}
			for i := range pieces {
				bad := slices.Clone(pieces)
				bad[i] = flip(bad[i], d.below(4))
				if is, e := Verify(bad, more); is || e != api.OK {
					t.Fatalf("Verify(%q, %d) = %v, %d", bad, more, is, e)
				}
			}
		}
	}
}

// D3: pieces may be empty, and as long as MaxBlock.
func TestVerifyAtTheLimits(t *testing.T) {
	if is, e := Verify(make([]string, api.MaxData+api.MaxMore), api.MaxMore); !is || e != api.OK {
		t.Errorf("of empty pieces: %v, %d", is, e)
	}
	pieces := all(t, []string{repeat(api.MaxBlock), repeat(api.MaxBlock)}, 2)
	if is, e := Verify(pieces, 2); !is || e != api.OK {
		t.Errorf("of long pieces: %v, %d", is, e)
	}
}

// D3, P1: ErrRange, ErrFew, errors of Encode of the others, ErrForm, in this order, and false.
func TestVerifyOfWrongInputs(t *testing.T) {
	long := repeat(api.MaxBlock + 1)
	for _, c := range []struct {
		all  []string
		more int
		want api.Errno
	}{
		{nil, 0, api.ErrRange},
		{[]string{"a", "a"}, -1, api.ErrRange},
		{[]string{"a", "a"}, math.MinInt, api.ErrRange},
		{make([]string, 20), api.MaxMore + 1, api.ErrRange},
		{nil, math.MaxInt, api.ErrRange},
		{nil, 1, api.ErrFew},
		{[]string{"a"}, 1, api.ErrFew},
		{[]string{long, "a"}, 2, api.ErrFew},
		{make([]string, 6), 6, api.ErrFew},
		{make([]string, api.MaxData+2), 1, api.ErrMany},
		{make([]string, api.MaxData+3), 2, api.ErrMany},
		{[]string{long, "a"}, 1, api.ErrMany},
		{[]string{long, long}, 1, api.ErrMany},
		{[]string{"a", "bc", "a"}, 1, api.ErrForm},
		{[]string{"a", "bc", long, "a"}, 1, api.ErrMany},
		{[]string{"a", long}, 1, api.ErrForm},
		{[]string{"a", "bc"}, 1, api.ErrForm},
		{[]string{"a", ""}, 1, api.ErrForm},
		{[]string{"a", "b", "c", "de"}, 2, api.ErrForm},
		{[]string{"a", "b", "de", "c"}, 2, api.ErrForm},
	} {
		if is, e := Verify(c.all, c.more); is || e != c.want {
			t.Errorf("Verify(%q, %d) = %v, %d, want %d", c.all, c.more, is, e, c.want)
		}
	}
}

// D3: what Change tells is what Encode of the changed data makes, whichever piece it is.
func TestChangeIsEncode(t *testing.T) {
	d := draw(6)
	for many := 1; many <= api.MaxData; many++ {
		for more := 1; more <= api.MaxMore; more++ {
			data := d.pieces(many, d.below(api.MaxBlock+1))
			for i := range data {
				changed := slices.Clone(data)
				changed[i] = d.piece(len(data[i]))
				want := mustEncode(t, changed, more)
				got, e := Change(i, data[i], changed[i], many, mustEncode(t, data, more))
				if e != api.OK || !slices.Equal(got, want) {
					t.Fatalf("Change(%d, %q, %q, %d) = %q, %d, want %q", i, data[i], changed[i], many, got, e, want)
				}
			}
		}
	}
}

// D3: a piece that stays leaves the others as they are, whatever these are.
func TestChangeOfNothing(t *testing.T) {
	rest := []string{"abc", "def"}
	if got, e := Change(1, "one", "one", 2, rest); e != api.OK || !slices.Equal(got, rest) {
		t.Errorf("Change = %q, %d", got, e)
	}
	if got, e := Change(7, "", "", 8, make([]string, 6)); e != api.OK || !slices.Equal(got, make([]string, 6)) {
		t.Errorf("of empty pieces: %q, %d", got, e)
	}
}

// D3, P1: ErrRange, ErrFew, ErrMany, ErrForm, in this order, and nothing else.
func TestChangeOfWrongInputs(t *testing.T) {
	long := repeat(api.MaxBlock + 1)
	for _, c := range []struct {
		i        int
		old, now string
		many     int
		rest     []string
		want     api.Errno
	}{
		{0, "a", "b", 0, []string{"c"}, api.ErrRange},
		{0, "a", "b", -1, nil, api.ErrRange},
		{0, "a", "b", api.MaxData + 1, []string{"c"}, api.ErrRange},
		{0, "a", "b", math.MaxInt, []string{"c"}, api.ErrRange},
		{-1, "a", "b", 2, []string{"c"}, api.ErrRange},
		{2, "a", "b", 2, []string{"c"}, api.ErrRange},
		{math.MinInt, long, "b", 2, nil, api.ErrRange},
		{math.MaxInt, "a", "b", 8, make([]string, 7), api.ErrRange},
		{0, "a", "b", 1, nil, api.ErrFew},
		{0, long, "b", 1, []string{}, api.ErrFew},
		{0, "", "", 1, make([]string, api.MaxMore+1), api.ErrMany},
		{0, "a", "bc", 1, make([]string, api.MaxMore+1), api.ErrMany},
		{0, long, "b", 1, []string{"c"}, api.ErrMany},
		{0, "a", long, 1, []string{"c"}, api.ErrMany},
		{0, "a", "b", 1, []string{"c", long}, api.ErrMany},
		{0, long, long, 1, []string{long}, api.ErrMany},
		{0, "a", "bc", 1, []string{"d", "e", long}, api.ErrMany},
		{0, "ab", "b", 1, []string{"c"}, api.ErrForm},
		{0, "a", "bc", 1, []string{"d"}, api.ErrForm},
		{0, "a", "b", 1, []string{"cd"}, api.ErrForm},
		{0, "a", "b", 1, []string{"c", ""}, api.ErrForm},
		{0, "ab", "cd", 1, []string{"e", "f"}, api.ErrForm},
	} {
		got, e := Change(c.i, c.old, c.now, c.many, c.rest)
		if len(got) != 0 || e != c.want {
			t.Errorf("Change(%d, %q, %q, %d, %q) = %q, %d, want %d", c.i, c.old, c.now, c.many, c.rest, got, e, c.want)
		}
	}
}

// answers of all calls that hang on these pieces, in one list each.
func answers(data, more []string) [][]string {
	at := []int{len(data), 1, 2}[:len(data)]
	made, _ := Encode(data, len(more))
	back, _ := Rebuild(len(data), len(more), at, data)
	changed, _ := Change(1, data[1], data[0], len(data), more)
	is, _ := Verify(slices.Concat(data, more), len(more))
	told := []string{"no"}
	if is {
		told[0] = "yes"
	}
	return [][]string{made, back, changed, told}
}

func copies(lists [][]string) [][]string {
	out := make([][]string, len(lists))
	for i, list := range lists {
		out[i] = slices.Clone(list)
	}
	return out
}

func same(a, b [][]string) bool { return slices.EqualFunc(a, b, slices.Equal[[]string]) }

// scribble over a list and the spare room behind it.
func scribble(list []string) {
	list = list[:cap(list)]
	for i := range list {
		list[i] += "!"
	}
}

// P2: what is handed in, and the spare room behind it, is only read.
func TestArgumentsAreOnlyRead(t *testing.T) {
	data := append(make([]string, 0, 9), "one", "two", "six")
	more := append(make([]string, 0, 9), mustEncode(t, data, 2)...)
	at := append(make([]int, 0, 9), 4, 0, 3)
	before := copies([][]string{data[:9], more[:9]})
	answers(data, more)
	answers(more, data)
	Rebuild(3, 2, at, data)
	Verify(data[:2], 1)
	if !same(before, [][]string{data[:9], more[:9]}) {
		t.Errorf("%q and %q were %q", data[:9], more[:9], before)
	}
	if !slices.Equal(at[:9], []int{4, 0, 3, 0, 0, 0, 0, 0, 0}) {
		t.Errorf("numbers are %v now", at[:9])
	}
}

// P2: answers share no memory with arguments, nor with each other.
func TestAnswersAreNewMemory(t *testing.T) {
	data := []string{"one", "two", "six"}
	more := mustEncode(t, data, 2)
	got := answers(data, more)
	want := copies(got)
	scribble(data)
	scribble(more)
	if !same(got, want) {
		t.Fatalf("an answer changed with an argument: %q, was %q", got, want)
	}
	for i := range got {
		scribble(got[i])
		if !same(got[i+1:], want[i+1:]) {
			t.Errorf("answers changed with answer %d: %q, were %q", i, got[i+1:], want[i+1:])
		}
	}
}

// P3: calls, and what is done to their answers, change no later answer.
func TestAnswersStay(t *testing.T) {
	data := []string{"one", "two", "six"}
	more := mustEncode(t, data, 2)
	first := answers(data, more)
	want := copies(first)
	for _, list := range first {
		scribble(list)
	}
	answers(more, data)
	if again := answers(data, more); !same(again, want) {
		t.Errorf("first %q, then %q", want, again)
	}
}

// checkNothing: P1: with an error the list is empty.
func checkNothing(t *testing.T, call string, got []string, e api.Errno) {
	t.Helper()
	if e != api.OK && len(got) != 0 {
		t.Fatalf("%s: %q with error %d", call, got, e)
	}
}

// P1: no call panics, whatever it is handed; with an error the rest is empty.
func TestNoPanic(t *testing.T) {
	d := draw(7)
	for range 5000 {
		size := d.below(70)
		pieces := d.pieces(d.below(16), size)
		for i := range pieces {
			if d.below(20) == 0 {
				pieces[i] = d.piece(d.below(70))
			}
		}
		at := make([]int, len(pieces))
		for i := range at {
			at[i] = d.below(17) - 1
		}
		many, more, i := d.below(12)-1, d.below(9)-1, d.below(12)-1
		made, e := Encode(pieces, more)
		checkNothing(t, "Encode", made, e)
		back, e := Rebuild(many, more, at, pieces)
		checkNothing(t, "Rebuild", back, e)
		changed, e := Change(i, d.piece(size), d.piece(size), many, pieces)
		checkNothing(t, "Change", changed, e)
		if is, e := Verify(pieces, more); is && e != api.OK {
			t.Fatalf("Verify(%q, %d) = true, %d", pieces, more, e)
		}
	}
}
