package wire

import (
	"math"
	"slices"
	"strings"
	"testing"

	"supercargo/api"
)

// draw gives the same numbers each time.
type draw uint64

func (d *draw) below(n int) int {
	*d = *d*6364136223846793005 + 1442695040888963407
	return int(uint64(*d) >> 33 % uint64(n))
}

// text of so many bytes of any kind.
func (d *draw) text(many int) string {
	out := make([]byte, many)
	for i := range out {
		out[i] = byte(d.below(256))
	}
	return string(out)
}

// message: a good one.
func (d *draw) message() api.Msg {
	m := api.Msg{Kind: 1 + d.below(4), Op: d.below(31), Node: d.below(12)}
	if m.Kind == api.MsgAnswer || m.Kind == api.MsgPut {
		m.Copy = of(d.below(api.MaxTime+1), d.below(32), d.text(d.below(65)))
	}
	return m
}

func of(time, who int, data string) api.Copy {
	return api.Copy{At: api.Stamp{Time: time, Who: who}, Data: data}
}

// long: so many bytes.
func long(bytes int) string { return strings.Repeat("z", bytes) }

// written: a message, and its bytes.
type written struct {
	m api.Msg
	s string
}

// goods: good messages at the limits, and their bytes, reckoned by hand.
func goods() []written {
	return []written{
		{api.Msg{Kind: 1}, "\x01\x00\x00"},
		{api.Msg{Kind: 1, Op: 30, Node: 11}, "\x01\x1e\x0b"},
		{api.Msg{Kind: 4}, "\x04\x00\x00"},
		{api.Msg{Kind: 4, Op: 7, Node: 3}, "\x04\x07\x03"},
		{api.Msg{Kind: 2}, "\x02\x00\x00\x00\x00\x00\x00\x00"},
		{api.Msg{Kind: 3}, "\x03\x00\x00\x00\x00\x00\x00\x00"},
		{api.Msg{Kind: 2, Op: 1, Node: 2, Copy: of(3, 4, "five!")}, "\x02\x01\x02\x00\x00\x03\x04\x05five!"},
		{api.Msg{Kind: 3, Op: 30, Node: 11, Copy: of(0, 31, "\x00\xff")}, "\x03\x1e\x0b\x00\x00\x00\x1f\x02\x00\xff"},
		{api.Msg{Kind: 2, Copy: of(255, 0, "")}, "\x02\x00\x00\x00\x00\xff\x00\x00"},
		{api.Msg{Kind: 2, Copy: of(256, 0, "")}, "\x02\x00\x00\x00\x01\x00\x00\x00"},
		{api.Msg{Kind: 2, Copy: of(65536, 0, "")}, "\x02\x00\x00\x01\x00\x00\x00\x00"},
		{api.Msg{Kind: 3, Copy: of(1000000, 31, long(64))}, "\x03\x00\x00\x0f\x42\x40\x1f\x40" + long(64)},
		{api.Msg{Kind: 3, Copy: of(0, 0, "\x01\x00\x00")}, "\x03\x00\x00\x00\x00\x00\x00\x03\x01\x00\x00"},
		{api.Msg{Kind: 2, Copy: of(0, 0, "a")}, "\x02\x00\x00\x00\x00\x00\x00\x01a"},
	}
}

// wrong: a message, and what Check answers of it.
type wrong struct {
	m    api.Msg
	want api.Errno
}

// wrongs: each limit, and of several faults the one that K1 names first.
func wrongs() []wrong {
	all := []wrong{
		{api.Msg{Kind: 5, Op: -1, Node: -1, Copy: of(-1, 0, long(65))}, api.ErrKind},
		{api.Msg{Kind: 0, Copy: of(1, 1, "a")}, api.ErrKind},
		{api.Msg{Kind: 1, Op: 31, Copy: of(1, 0, long(65))}, api.ErrRange},
		{api.Msg{Kind: 4, Node: 12, Copy: of(1, 0, long(65))}, api.ErrRange},
	}
	for _, kind := range []int{math.MinInt, -1, 0, 5, 257, math.MaxInt} {
		all = append(all, wrong{api.Msg{Kind: kind}, api.ErrKind})
	}
	for kind := 1; kind <= 4; kind++ {
		for _, n := range []int{math.MinInt, -1, 31, 256, math.MaxInt} {
			all = append(all, wrong{api.Msg{Kind: kind, Op: n}, api.ErrRange})
		}
		for _, n := range []int{math.MinInt, -1, 12, 256, math.MaxInt} {
			all = append(all, wrong{api.Msg{Kind: kind, Node: n}, api.ErrRange})
		}
		for _, c := range []api.Copy{of(-1, 0, ""), of(api.MaxTime+1, 0, ""), of(1<<24, 0, ""), of(0, -1, ""), of(0, 32, ""), of(0, 256, ""), of(-1, 0, long(65))} {
			all = append(all, wrong{api.Msg{Kind: kind, Copy: c}, api.ErrRange})
		}
		for _, c := range []api.Copy{of(0, 0, long(65)), of(1, 1, long(256)), of(0, 0, long(100000))} {
			all = append(all, wrong{api.Msg{Kind: kind, Copy: c}, api.ErrMany})
		}
	}
	for _, kind := range []int{api.MsgQuery, api.MsgDone} {
		for _, c := range []api.Copy{of(1, 0, ""), of(0, 1, ""), of(0, 0, "a"), of(0, 0, "\x00"), of(5, 5, long(64))} {
			all = append(all, wrong{api.Msg{Kind: kind, Copy: c}, api.ErrForm})
		}
	}
	return all
}

// K1, K2: what is good is written so.
func TestGoodMessages(t *testing.T) {
	for _, c := range goods() {
		if e := Check(c.m); e != api.OK {
			t.Errorf("Check(%v) = %d", c.m, e)
		}
		if s, e := Write(c.m); s != c.s || e != api.OK {
			t.Errorf("Write(%v) = %q, %d, want %q", c.m, s, e, c.s)
		}
	}
}

// K1, K2, P1: what is wrong, and nothing is written of it.
func TestWrongMessages(t *testing.T) {
	for _, c := range wrongs() {
		if e := Check(c.m); e != c.want {
			t.Errorf("Check(%v) = %d, want %d", c.m, e, c.want)
		}
		if s, e := Write(c.m); s != "" || e != c.want {
			t.Errorf("Write(%v) = %q, %d, want %d", c.m, s, e, c.want)
		}
	}
}

// K1: all operations and nodes around their limits.
func TestEachOpAndNode(t *testing.T) {
	for op := -2; op <= 33; op++ {
		for node := -2; node <= 14; node++ {
			want := api.OK
			if op < 0 || op > 30 || node < 0 || node > 11 {
				want = api.ErrRange
			}
			for kind := 1; kind <= 4; kind++ {
				if e := Check(api.Msg{Kind: kind, Op: op, Node: node}); e != want {
					t.Errorf("kind %d, op %d, node %d: %d, want %d", kind, op, node, e, want)
				}
			}
		}
	}
}

// K3: the message with which a text begins, whatever is behind it; and each beginning of it is too short.
func TestReadOfGoodTexts(t *testing.T) {
	for _, c := range goods() {
		for _, behind := range []string{"", "\x00", "\x01", c.s, long(300)} {
			if m, used, e := Read(c.s + behind); m != c.m || used != len(c.s) || e != api.OK {
				t.Errorf("Read(%q) = %v, %d, %d", c.s+behind, m, used, e)
			}
		}
		for n := range len(c.s) {
			if m, used, e := Read(c.s[:n]); m != (api.Msg{}) || used != 0 || e != api.ErrNone {
				t.Errorf("Read(%q) = %v, %d, %d", c.s[:n], m, used, e)
			}
		}
	}
}

// short: a text, and the error of Read.
type short struct {
	s    string
	want api.Errno
}

// shorts: texts that begin with no message, and of several faults the one that K3 names first.
func shorts() []short {
	return []short{
		{"\x00", api.ErrKind},
		{"\x05", api.ErrKind},
		{"\xff", api.ErrKind},
		{"\x00\x1f\x0c", api.ErrKind},
		{"\x01", api.ErrNone},
		{"\x01\x1f", api.ErrNone},
		{"\x04\xff", api.ErrNone},
		{"\x01\x1f\x00", api.ErrRange},
		{"\x01\x00\x0c", api.ErrRange},
		{"\x04\xff\xff", api.ErrRange},
		{"\x02\x1f\x0c", api.ErrNone},
		{"\x02\x1f\x0c\xff\xff\xff\xff", api.ErrNone},
		{"\x03\x00\x00\xff\xff\xff\xff\x01", api.ErrNone},
		{"\x03\x00\x00\xff\xff\xff\xff\x01a", api.ErrRange},
		{"\x02\x1f\x00\x00\x00\x00\x00\x00", api.ErrRange},
		{"\x02\x00\x0c\x00\x00\x00\x00\x00", api.ErrRange},
		{"\x02\x00\x00\x0f\x42\x41\x00\x00", api.ErrRange},
		{"\x02\x00\x00\x00\x00\x00\x20\x00", api.ErrRange},
		{"\x02\x00\x00\x00\x00\x00\x00\x41" + long(64), api.ErrNone},
		{"\x02\x00\x00\x00\x00\x00\x00\x41" + long(65), api.ErrMany},
		{"\x03\x00\x00\x00\x00\x00\x00\xff" + long(254), api.ErrNone},
		{"\x03\x00\x00\x00\x00\x00\x00\xff" + long(255), api.ErrMany},
		{"\x03\x00\x00\x00\x00\x00\x20\xff" + long(255), api.ErrRange},
		{"\x03\x1f\x00\x00\x00\x00\x00\x41" + long(65), api.ErrRange},
	}
}

// K3, P1: the errors in their order, and nothing beside them; of ReadAll too, wherever that text stands.
func TestReadOfWrongTexts(t *testing.T) {
	if m, used, e := Read(""); m != (api.Msg{}) || used != 0 || e != api.ErrNone {
		t.Errorf("Read of nothing: %v, %d, %d", m, used, e)
	}
	for _, c := range shorts() {
		if m, used, e := Read(c.s); m != (api.Msg{}) || used != 0 || e != c.want {
			t.Errorf("Read(%q) = %v, %d, %d, want %d", c.s, m, used, e, c.want)
		}
		for _, before := range []int{0, 1, 2, 63, 64, 65, 200} {
			if l, e := ReadAll(strings.Repeat("\x04\x01\x02", before) + c.s); len(l) != 0 || e != c.want {
				t.Errorf("ReadAll of %q behind %d: %v, %d, want %d", c.s, before, l, e, c.want)
			}
		}
	}
}

// K3: each kind that a byte may tell, and each byte of an operation and of a node.
func TestReadOfEachByte(t *testing.T) {
	for b := range 256 {
		for place, good := range []func(int) bool{
			func(b int) bool { return 1 <= b && b <= 4 },
			func(b int) bool { return b <= 30 },
			func(b int) bool { return b <= 11 },
		} {
			text := []byte("\x01\x00\x00\x00\x00\x00\x00\x00")
			text[place] = byte(b)
			want := api.OK
			switch {
			case !good(b) && place == 0:
				want = api.ErrKind
			case !good(b):
				want = api.ErrRange
			}
			if _, _, e := Read(string(text)); e != want {
				t.Errorf("byte %d is %d: %d, want %d", place, b, e, want)
			}
		}
	}
}

// told: what K3 says of a text, told in another way: by how long it must be.
func told(s string) (api.Msg, int, api.Errno) {
	if s == "" {
		return api.Msg{}, 0, api.ErrNone
	}
	if s[0] == 0 || s[0] > 4 {
		return api.Msg{}, 0, api.ErrKind
	}
	size := 3
	if s[0] == 2 || s[0] == 3 {
		size = 8
		if len(s) >= 8 {
			size += int(s[7])
		}
	}
	if len(s) < size {
		return api.Msg{}, 0, api.ErrNone
	}
	m := api.Msg{Kind: int(s[0]), Op: int(s[1]), Node: int(s[2])}
	if size >= 8 {
		m.Copy = of(int(s[3])*65536+int(s[4])*256+int(s[5]), int(s[6]), s[8:size])
	}
	switch {
	case m.Op > 30 || m.Node > 11 || m.Copy.At.Time > 1000000 || m.Copy.At.Who > 31:
		return api.Msg{}, 0, api.ErrRange
	case len(m.Copy.Data) > 64:
		return api.Msg{}, 0, api.ErrMany
	}
	return m, size, api.OK
}

// K3, P1: texts of any bytes, most of which are small, so that much of them is good.
func TestReadOfManyTexts(t *testing.T) {
	d := draw(1)
	for range 20000 {
		text := []byte(d.text(d.below(90)))
		for i := range text {
			if d.below(8) > 0 {
				text[i] %= 13
			}
		}
		m, used, e := Read(string(text))
		want, size, f := told(string(text))
		if m != want || used != size || e != f {
			t.Fatalf("Read(%q) = %v, %d, %d, want %v, %d, %d", text, m, used, e, want, size, f)
		}
	}
}

// K2, K3: what was written is read again, alone and one behind the other.
func TestReadOfWrite(t *testing.T) {
	d := draw(2)
	for many := range api.MaxList + 3 {
		var all []api.Msg
		var text strings.Builder
		for range many {
			m := d.message()
			s, e := Write(m)
			back, used, f := Read(s)
			if back != m || used != len(s) || e != api.OK || f != api.OK {
				t.Fatalf("%v: %q, %d; %v, %d, %d", m, s, e, back, used, f)
			}
			all = append(all, m)
			text.WriteString(s)
		}
		l, e := ReadAll(text.String())
		switch {
		case many > 64 && (len(l) != 0 || e != api.ErrMany):
			t.Errorf("of %d: %d, %d", many, len(l), e)
		case many <= 64 && (!slices.Equal(l, all) || e != api.OK):
			t.Errorf("of %d: %v, %d, want %v", many, l, e, all)
		}
	}
}

// K3: at most MaxList messages; many more are ErrMany too.
func TestReadAllOfMany(t *testing.T) {
	for _, c := range []struct {
		many int
		want api.Errno
	}{{0, api.OK}, {1, api.OK}, {64, api.OK}, {65, api.ErrMany}, {66, api.ErrMany}, {50000, api.ErrMany}} {
		l, e := ReadAll(strings.Repeat("\x01\x02\x03", c.many))
		if e != c.want || e == api.OK && len(l) != c.many || e != api.OK && len(l) != 0 {
			t.Errorf("of %d: %d, %d", c.many, len(l), e)
		}
	}
}

// K4: no message is the beginning of another one.
func TestNoMessageBeginsAnother(t *testing.T) {
	d := draw(3)
	var texts []string
	for range 400 {
		m := d.message()
		m.Op, m.Node, m.Copy.At = d.below(2), d.below(2), api.Stamp{}
		m.Copy.Data = m.Copy.Data[:min(len(m.Copy.Data), d.below(3))]
		s, e := Write(m)
		if e != api.OK {
			t.Fatalf("Write(%v): %d", m, e)
		}
		texts = append(texts, s)
	}
	for _, a := range texts {
		for _, b := range texts {
			if a != b && strings.HasPrefix(b, a) {
				t.Fatalf("%q begins %q", a, b)
			}
		}
	}
}

// P2, P3: an answer is the caller's; what is done to it changes no later one.
func TestAnswersStay(t *testing.T) {
	text := "\x02\x01\x02\x00\x00\x03\x04\x02ab\x01\x00\x00"
	first, e := ReadAll(text)
	was := slices.Clone(first)
	if len(was) != 2 || e != api.OK {
		t.Fatalf("%v, %d", first, e)
	}
	clear(first)
	if _, _, e := Read("\x02"); e != api.ErrNone {
		t.Errorf("Read: %d", e)
	}
	if again, e := ReadAll(text); !slices.Equal(again, was) || e != api.OK {
		t.Errorf("first %v, then %v, %d", was, again, e)
	}
}
