package cross

import (
	"bytes"
	"math"
	"slices"
	"testing"

	"supercargo/api"
)

// draw gives the same numbers each time.
type draw uint64

func (d *draw) below(n int) int {
	*d = *d*6364136223846793005 + 1442695040888963407
	return int(uint64(*d) >> 33 % uint64(n))
}

func (d *draw) bytes(n int) []byte {
	out := make([]byte, n)
	for i := range out {
		out[i] = byte(d.below(256))
	}
	return out
}

func (d *draw) lines(n, long int) [][]byte {
	out := make([][]byte, n)
	for i := range out {
		out[i] = d.bytes(long)
	}
	return out
}

func (d *draw) grid() [][]byte { return d.lines(api.Lines, api.Disks) }

func copyOf(g [][]byte) [][]byte {
	out := make([][]byte, len(g))
	for i, line := range g {
		out[i] = bytes.Clone(line)
	}
	return out
}

func same(a, b [][]byte) bool { return slices.EqualFunc(a, b, bytes.Equal) }

func mustEncode(t *testing.T, g [][]byte) (rows, cross []byte) {
	t.Helper()
	rows, cross, e := Encode(g)
	if e != api.OK {
		t.Fatalf("Encode(%v): %d", g, e)
	}
	return rows, cross
}

func mustRebuild(t *testing.T, g [][]byte, rows, cross []byte, a, b int) [][]byte {
	t.Helper()
	got, e := Rebuild(g, rows, cross, a, b)
	if e != api.OK {
		t.Fatalf("Rebuild(%v, %v, %v, %d, %d): %d", g, rows, cross, a, b, e)
	}
	return got
}

// pairs: a and b, each a disk, and not the same, in both orders.
func pairs() [][2]int {
	var out [][2]int
	for a := range api.Disks {
		for b := range api.Disks {
			if a != b {
				out = append(out, [2]int{a, b})
			}
		}
	}
	return out
}

// paritiesByPlace: place by place, as E2's words say: another way than Encode's.
func paritiesByPlace(g [][]byte) (rows, cross []byte) {
	rows, cross = make([]byte, 4), make([]byte, 5)
	for i, line := range g {
		for _, one := range line {
			rows[i] ^= one
		}
		for k, one := range append(bytes.Clone(line), rows[i]) {
			cross[(i+k)%5] ^= one
		}
	}
	return rows, cross[:4]
}

// wrongs: what is no grid.
func wrongs() [][][]byte {
	d := draw(9)
	odd := func(at, long int) [][]byte {
		g := d.grid()
		g[at] = d.bytes(long)
		return g
	}
	return [][][]byte{
		nil, {}, {nil}, make([][]byte, 4), make([][]byte, 5), {{}, {}, {}, {}},
		d.lines(3, 4), d.lines(5, 4), d.lines(1, 4), d.lines(1000, 4),
		d.lines(4, 3), d.lines(4, 5), d.lines(4, 0), d.lines(4, 1000), d.lines(5, 5), d.lines(3, 3),
		odd(0, 3), odd(0, 5), odd(1, 0), odd(2, 3), odd(3, 3), odd(3, 5), odd(3, 0),
	}
}

// E1: Lines lines of Disks bytes each, whatever these are.
func TestCheckOfGrids(t *testing.T) {
	d := draw(1)
	for range 50 {
		if g := d.grid(); Check(g) != api.OK {
			t.Errorf("Check(%v) = %d", g, Check(g))
		}
	}
}

// E1: ErrForm of all else.
func TestCheckOfWrongInputs(t *testing.T) {
	for _, g := range wrongs() {
		if e := Check(g); e != api.ErrForm {
			t.Errorf("Check(%v) = %d", g, e)
		}
	}
}

// E2: row parity and cross parity, of whatever grid.
func TestEncodePlaceByPlace(t *testing.T) {
	d := draw(2)
	for range 300 {
		g := d.grid()
		rows, cross := mustEncode(t, g)
		wantRows, wantCross := paritiesByPlace(g)
		if !bytes.Equal(rows, wantRows) || !bytes.Equal(cross, wantCross) {
			t.Fatalf("Encode(%v) = %v, %v, want %v, %v", g, rows, cross, wantRows, wantCross)
		}
	}
}

// E2: one byte goes to the parity of its line, and to those of its own diagonal and of that parity's, if they are not that of 4.
func TestEncodeOfOneByte(t *testing.T) {
	for _, c := range []struct {
		line, disk int
		cross      []byte
	}{
		{0, 0, []byte{7, 0, 0, 0}}, // diagonal 0; its parity's is 4
		{0, 3, []byte{0, 0, 0, 7}},
		{1, 0, []byte{7, 7, 0, 0}}, // diagonal 1; its parity's is 0
		{1, 3, []byte{7, 0, 0, 0}}, // diagonal 4
		{3, 1, []byte{0, 0, 7, 0}}, // diagonal 4; its parity's is 2
		{3, 2, []byte{7, 0, 7, 0}}, // diagonal 0, come round
		{2, 3, []byte{7, 7, 0, 0}}, // diagonal 0; its parity's is 1
		{3, 3, []byte{0, 7, 7, 0}}, // diagonal 1; its parity's is 2
	} {
		g := [][]byte{make([]byte, 4), make([]byte, 4), make([]byte, 4), make([]byte, 4)}
		g[c.line][c.disk] = 7
		wantRows := make([]byte, 4)
		wantRows[c.line] = 7
		if rows, cross := mustEncode(t, g); !bytes.Equal(rows, wantRows) || !bytes.Equal(cross, c.cross) {
			t.Errorf("of line %d and disk %d: %v, %v, want %v, %v", c.line, c.disk, rows, cross, wantRows, c.cross)
		}
	}
}

// E2, P1: errors of Check, and nothing else.
func TestEncodeOfWrongInputs(t *testing.T) {
	for _, g := range wrongs() {
		if rows, cross, e := Encode(g); len(rows) != 0 || len(cross) != 0 || e != api.ErrForm {
			t.Errorf("Encode(%v) = %v, %v, %d", g, rows, cross, e)
		}
	}
}

// E3, E4: whichever two disks are lost, all is there; whatever stands in their places is not looked at.
func TestRebuildOfTwoLostDisks(t *testing.T) {
	d := draw(3)
	for range 100 {
		g := d.grid()
		rows, cross := mustEncode(t, g)
		for _, p := range pairs() {
			lost := copyOf(g)
			for i := range lost {
				lost[i][p[0]], lost[i][p[1]] = byte(d.below(256)), byte(d.below(256))
			}
			if got := mustRebuild(t, lost, rows, cross, p[0], p[1]); !same(got, g) {
				t.Fatalf("Rebuild(%v, %v) = %v, want %v", lost, p, got, g)
			}
		}
	}
}

// E3: whatever parities there are, the grid is the one that has them and the disks that are known.
func TestRebuildOfAnyParities(t *testing.T) {
	d := draw(4)
	for range 100 {
		g, rows, cross := d.grid(), d.bytes(4), d.bytes(4)
		for _, p := range pairs() {
			got := mustRebuild(t, g, rows, cross, p[0], p[1])
			gotRows, gotCross := paritiesByPlace(got)
			if !bytes.Equal(gotRows, rows) || !bytes.Equal(gotCross, cross) {
				t.Fatalf("Rebuild(%v, %v, %v, %v) = %v has %v, %v", g, rows, cross, p, got, gotRows, gotCross)
			}
			for i := range g {
				for k := range g[i] {
					if k != p[0] && k != p[1] && got[i][k] != g[i][k] {
						t.Fatalf("Rebuild(%v, %v) = %v changed disk %d", g, p, got, k)
					}
				}
			}
		}
	}
}

// E3, P1: each error, and the order among them, and nothing else.
func TestRebuildOfWrongInputs(t *testing.T) {
	d := draw(5)
	good, four := d.grid(), d.bytes(4)
	type call struct {
		g           [][]byte
		rows, cross []byte
		a, b        int
		want        api.Errno
	}
	var calls []call
	for _, g := range wrongs() {
		calls = append(calls, call{g, four, four, 0, 1, api.ErrForm}, call{g, nil, nil, -1, -1, api.ErrForm}, call{g, four, four, 2, 2, api.ErrForm})
	}
	for _, n := range []int{0, 1, 3, 5, 1000} {
		other := d.bytes(n)
		calls = append(calls, call{good, other, four, 0, 1, api.ErrForm}, call{good, four, other, 0, 1, api.ErrForm})
		calls = append(calls, call{good, other, four, 0, 4, api.ErrForm}, call{good, four, other, 3, 3, api.ErrForm}, call{good, other, other, -1, -1, api.ErrForm})
	}
	for _, n := range []int{math.MinInt, -1, 4, 5, math.MaxInt} {
		calls = append(calls, call{good, four, four, n, 0, api.ErrRange}, call{good, four, four, 3, n, api.ErrRange}, call{good, four, four, n, n, api.ErrRange})
	}
	for n := range api.Disks {
		calls = append(calls, call{good, four, four, n, n, api.ErrTwice})
	}
	for _, c := range calls {
		if got, e := Rebuild(c.g, c.rows, c.cross, c.a, c.b); len(got) != 0 || e != c.want {
			t.Errorf("Rebuild(%v, %v, %v, %d, %d) = %v, %d, want %d", c.g, c.rows, c.cross, c.a, c.b, got, e, c.want)
		}
	}
}

// roomy: a copy with spare room behind it.
func roomy(list []byte) []byte { return append(make([]byte, 0, len(list)+4), list...) }

// P2: what is handed in, and the spare room behind it, is only read.
func TestArgumentsAreOnlyRead(t *testing.T) {
	d := draw(6)
	g := append(make([][]byte, 0, 6), d.grid()...)
	for i := range g {
		g[i] = roomy(g[i])
	}
	rows, cross := roomy(d.bytes(4)), roomy(d.bytes(4))
	wide := func() [][]byte {
		out := [][]byte{bytes.Clone(rows[:8]), bytes.Clone(cross[:8])}
		for _, line := range g {
			out = append(out, bytes.Clone(line[:8]))
		}
		return append(out, g[:6][4:]...)
	}
	was := wide()
	Check(g)
	mustEncode(t, g)
	for _, p := range pairs() {
		mustRebuild(t, g, rows, cross, p[0], p[1])
	}
	if now := wide(); !same(now, was) || now[6] != nil || now[7] != nil {
		t.Errorf("it was %v and is %v", was, now)
	}
}

// scribble over a list and the spare room behind it.
func scribble(list []byte) {
	list = list[:cap(list)]
	for i := range list {
		list[i] ^= 0xa5
	}
}

// answers of Encode and Rebuild, list by list.
func answers(t *testing.T, g [][]byte, rows, cross []byte) [][]byte {
	t.Helper()
	r, c := mustEncode(t, g)
	return append(mustRebuild(t, g, rows, cross, 2, 0), r, c)
}

// P2: answers share no memory with arguments, nor lists of them with each other, even if the lines of an argument do.
func TestAnswersAreNewMemory(t *testing.T) {
	d := draw(7)
	line := d.bytes(4)
	g := [][]byte{line, line, line, line}
	got := answers(t, g, line, line)
	want := copyOf(got)
	scribble(line)
	if !same(got, want) {
		t.Fatalf("an answer changed with an argument: %v, was %v", got, want)
	}
	for i := range got {
		scribble(got[i])
		if !same(got[i+1:], want[i+1:]) {
			t.Errorf("lists changed with list %d: %v, were %v", i, got[i+1:], want[i+1:])
		}
	}
}

// P3: calls, and what is done to their answers, change no later answer.
func TestAnswersStay(t *testing.T) {
	d := draw(8)
	g, rows, cross := d.grid(), d.bytes(4), d.bytes(4)
	first := answers(t, g, rows, cross)
	want := copyOf(first)
	for _, list := range first {
		scribble(list)
	}
	answers(t, d.grid(), cross, rows)
	for range 20 {
		if again := answers(t, g, rows, cross); !same(again, want) {
			t.Fatalf("first %v, then %v", want, again)
		}
	}
}

// P1: no call panics, whatever it is handed; with an error the rest is empty.
func TestNoPanic(t *testing.T) {
	d := draw(10)
	for range 2000 {
		g := d.lines(3+d.below(3), 4)
		for i := range g {
			if d.below(20) == 0 {
				g[i] = d.bytes(d.below(7))
			}
		}
		rows, cross, e := Encode(g)
		if e != Check(g) || e != api.OK && len(rows)+len(cross) != 0 {
			t.Fatalf("Encode(%v) = %v, %v, %d", g, rows, cross, e)
		}
		a, b := d.below(7)-1, d.below(7)-1
		got, e := Rebuild(g, d.bytes(4+d.below(10)/9), d.bytes(4-d.below(10)/9), a, b)
		if e != api.OK && len(got) != 0 || e == api.OK && (Check(got) != api.OK || a == b) {
			t.Fatalf("Rebuild(%v, %d, %d) = %v, %d", g, a, b, got, e)
		}
	}
}
