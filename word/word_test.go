package word

import (
	"strings"
	"testing"

	"supercargo/api"
)

// bit i of a word: 0 or 1.
func bit(w uint16, i int) int { return int(w>>i) & 1 }

// spelt: the word of a byte, bit by bit, as F1's words say: another way than Write's.
func spelt(b byte) uint16 {
	var is [13]int
	for i, place := range []int{3, 5, 6, 7, 9, 10, 11, 12} {
		is[place] = int(b>>i) & 1
	}
	for _, parity := range []int{1, 2, 4, 8} {
		for place := 1; place <= 12; place++ {
			if place&parity != 0 && place != parity {
				is[parity] ^= is[place]
			}
		}
	}
	for place := 1; place <= 12; place++ {
		is[0] ^= is[place]
	}
	w := uint16(0)
	for place, one := range is {
		w |= uint16(one) << place
	}
	return w
}

// reading: what Read is to answer of a word.
type reading struct {
	b byte
	n int
}

// readings of all words: those of each byte, then those that one turn of a bit makes such a one.
func readings() map[uint16]reading {
	all := map[uint16]reading{}
	for b := range 256 {
		all[spelt(byte(b))] = reading{byte(b), 0}
	}
	for b := range 256 {
		for i := range 13 {
			all[spelt(byte(b))^1<<i] = reading{byte(b), 1}
		}
	}
	return all
}

// F1: bits of the byte, parities, and bit 0, of each byte.
func TestWriteOfEachByte(t *testing.T) {
	for b := range 256 {
		if got, want := Write(byte(b)), spelt(byte(b)); got != want {
			t.Errorf("Write(%d) = %04x, want %04x", b, got, want)
		}
	}
}

// F1: what the parities promise of a word holds.
func TestParitiesOfWords(t *testing.T) {
	for b := range 256 {
		w := Write(byte(b))
		if w >= 1<<13 {
			t.Fatalf("Write(%d) = %04x has more than thirteen bits", b, w)
		}
		all := 0
		var sums [4]int
		for i := range 13 {
			all ^= bit(w, i)
			for n := range sums {
				if i>>n&1 == 1 {
					sums[n] ^= bit(w, i)
				}
			}
		}
		if all != 0 || sums != [4]int{} {
			t.Errorf("Write(%d) = %04x: %d, %v", b, w, all, sums)
		}
	}
}

// F1: words that were reckoned by hand.
func TestWriteOfSome(t *testing.T) {
	for _, c := range []struct {
		b    byte
		want uint16
	}{
		{0, 0},
		{1, 0x0008 | 0x0007},   // place 3 is 1 and 2; bit 0 makes four
		{8, 0x0080 | 0x0016},   // place 7 is 1, 2 and 4: four without bit 0
		{128, 0x1000 | 0x0111}, // place 12 is 4 and 8; bit 0 makes four
		{129, 0x1008 | 0x0116}, // places 3 and 12: all four parities
		{255, 0x1ee8 | 0x0006}, // all places: their xor is 3
	} {
		if got := Write(c.b); got != c.want {
			t.Errorf("Write(%d) = %04x, want %04x", c.b, got, c.want)
		}
	}
}

// F2, P1: of each word there is: 0, 1, or else -1 and the byte 0, those of 2^13 or more too.
func TestReadOfEachWord(t *testing.T) {
	want := readings()
	if len(want) != 256*14 {
		t.Fatalf("%d words can be read, not %d", len(want), 256*14)
	}
	for w := range 1 << 16 {
		is, ok := want[uint16(w)]
		if !ok {
			is = reading{0, -1}
		}
		if b, n := Read(uint16(w)); b != is.b || n != is.n {
			t.Fatalf("Read(%04x) = %d, %d, want %d, %d", w, b, n, is.b, is.n)
		}
	}
}

// F2: a bit above the thirteen is none that could be turned.
func TestReadOfGreatWords(t *testing.T) {
	for b := range 256 {
		for i := 13; i < 16; i++ {
			if got, n := Read(Write(byte(b)) | 1<<i); got != 0 || n != -1 {
				t.Fatalf("Read of %d with bit %d = %d, %d", b, i, got, n)
			}
		}
	}
}

// F4: of each byte, whichever bit turns, it is mended.
func TestOneTurnIsMended(t *testing.T) {
	for b := range 256 {
		for i := range 13 {
			if got, n := Read(Write(byte(b)) ^ 1<<i); got != byte(b) || n != 1 {
				t.Fatalf("Read of %d with bit %d turned = %d, %d", b, i, got, n)
			}
		}
	}
}

// F4: of each byte, whichever two bits turn, it is seen.
func TestTwoTurnsAreSeen(t *testing.T) {
	for b := range 256 {
		for i := range 13 {
			for k := range i {
				if got, n := Read(Write(byte(b)) ^ 1<<i ^ 1<<k); got != 0 || n != -1 {
					t.Fatalf("Read of %d with bits %d and %d turned = %d, %d", b, k, i, got, n)
				}
			}
		}
	}
}

// text of n bytes, which all differ from their neighbours.
func text(n, from int) string {
	out := make([]byte, n)
	for i := range out {
		out[i] = byte(from + 37*i)
	}
	return string(out)
}

// turned: a text with a bit of word i turned.
func turned(t string, i, place int) string {
	out := []byte(t)
	out[2*i+1-place/8] ^= 1 << (place % 8)
	return string(out)
}

// F3: each word as two bytes, the greater one first.
func TestWriteAllByteByByte(t *testing.T) {
	for n := range api.MaxBlock + 1 {
		s := text(n, n)
		got, e := WriteAll(s)
		if e != api.OK || len(got) != 2*n {
			t.Fatalf("WriteAll(%q) = %q, %d", s, got, e)
		}
		for i := range n {
			if w := spelt(s[i]); got[2*i] != byte(w/256) || got[2*i+1] != byte(w%256) {
				t.Fatalf("WriteAll(%q): word %d is %q, not %04x", s, i, got[2*i:2*i+2], w)
			}
		}
	}
}

// F3: a text is bytes, of any kind: those that are no runes too.
func TestWriteAllOfNoRunes(t *testing.T) {
	got, e := WriteAll("\xff\xc3")
	ff, c3 := spelt(0xff), spelt(0xc3)
	if want := string([]byte{byte(ff >> 8), byte(ff), byte(c3 >> 8), byte(c3)}); e != api.OK || got != want {
		t.Errorf("WriteAll = %q, %d, want %q", got, e, want)
	}
}

// F3: what WriteAll wrote is read, with nothing mended.
func TestReadAllComesBack(t *testing.T) {
	for n := range api.MaxBlock + 1 {
		s := text(n, 3*n)
		words, _ := WriteAll(s)
		if got, mended, e := ReadAll(words); got != s || mended != 0 || e != api.OK {
			t.Fatalf("ReadAll(%q) = %q, %d, %d, want %q", words, got, mended, e, s)
		}
	}
}

// F3, F4: one bit of each word may turn: the text is the same, and each turn is told of.
func TestReadAllMends(t *testing.T) {
	s := text(api.MaxBlock, 5)
	words, _ := WriteAll(s)
	for i := range api.MaxBlock {
		words = turned(words, i, i%13)
		if got, mended, e := ReadAll(words); got != s || mended != i+1 || e != api.OK {
			t.Fatalf("with %d turns: %q, %d, %d", i+1, got, mended, e)
		}
	}
}

// F3, F4, P1: ErrNone, and nothing else, if a word can't be read, whichever it is and whatever else was mended.
func TestReadAllOfWordsThatCantBeRead(t *testing.T) {
	s := text(9, 1)
	whole, _ := WriteAll(s)
	for i := range len(s) {
		for _, bad := range []string{
			turned(turned(whole, i, 12), i, 0),
			turned(turned(turned(whole, i, 3), i, 7), (i+1)%9, 4),
			turned(whole, i, 13),
			turned(whole, i, 15),
		} {
			if got, mended, e := ReadAll(bad); got != "" || mended != 0 || e != api.ErrNone {
				t.Errorf("ReadAll(%q) = %q, %d, %d", bad, got, mended, e)
			}
		}
	}
}

// F3, P1: ErrMany, and nothing else, of a text that is longer than MaxBlock.
func TestWriteAllOfTooMany(t *testing.T) {
	for _, n := range []int{api.MaxBlock + 1, 2 * api.MaxBlock, 100000} {
		if got, e := WriteAll(text(n, 0)); got != "" || e != api.ErrMany {
			t.Errorf("WriteAll of %d bytes = %q, %d", n, got, e)
		}
	}
}

// F3, P1: ErrMany goes before ErrForm, and ErrForm before ErrNone; and nothing else.
func TestReadAllOfWrongInputs(t *testing.T) {
	none := func(n int) string { return strings.Repeat("\xff", n) }
	whole, _ := WriteAll(text(api.MaxBlock, 0))
	for _, c := range []struct {
		t    string
		want api.Errno
	}{
		{whole + "\x00", api.ErrMany},
		{whole + "\x00\x00", api.ErrMany},
		{none(129), api.ErrMany},
		{none(130), api.ErrMany},
		{none(100000), api.ErrMany},
		{none(1), api.ErrForm},
		{none(127), api.ErrForm},
		{whole[:127], api.ErrForm},
		{whole[:1], api.ErrForm},
		{none(2), api.ErrNone},
		{none(128), api.ErrNone},
		{"\x20\x00", api.ErrNone},
	} {
		if got, mended, e := ReadAll(c.t); got != "" || mended != 0 || e != c.want {
			t.Errorf("ReadAll of %d bytes = %q, %d, %d, want %d", len(c.t), got, mended, e, c.want)
		}
	}
}

// P3: an answer hangs on what was handed in, not on calls between.
func TestAnswersStay(t *testing.T) {
	words, _ := WriteAll("stay")
	for w := range 1 << 13 {
		Read(uint16(w))
		ReadAll(string([]byte{byte(w >> 8), byte(w)}))
	}
	if again, e := WriteAll("stay"); again != words || e != api.OK {
		t.Errorf("first %q, then %q, %d", words, again, e)
	}
	if got, mended, e := ReadAll(words); got != "stay" || mended != 0 || e != api.OK {
		t.Errorf("ReadAll = %q, %d, %d", got, mended, e)
	}
}
