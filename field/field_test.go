package field

import (
	"math"
	"testing"

	"supercargo/api"
)

// longProduct multiplies first and takes the rest by Poly afterwards: another way than Mul's.
func longProduct(a, b byte) byte {
	product := 0
	for i := range 8 {
		for k := range 8 {
			if a>>i&1 == 1 && b>>k&1 == 1 {
				product ^= 1 << (i + k)
			}
		}
	}
	for i := 14; i >= 8; i-- {
		if product>>i&1 == 1 {
			product ^= api.Poly << (i - 8)
		}
	}
	return byte(product)
}

// A1: Mul is the product by the rest of Poly, of every two bytes.
func TestMulIsRestOfProduct(t *testing.T) {
	for a := range 256 {
		for b := range 256 {
			if got, want := Mul(byte(a), byte(b)), longProduct(byte(a), byte(b)); got != want {
				t.Fatalf("Mul(%d, %d) = %d, want %d", a, b, got, want)
			}
		}
	}
}

// A1: Power is x times itself, also round and round again.
func TestPowerIsRepeatedMul(t *testing.T) {
	want := byte(1)
	for n := range 1000 {
		if got := Power(n); got != want {
			t.Fatalf("Power(%d) = %d, want %d", n, got, want)
		}
		want = longProduct(want, 2)
	}
}

// A1: below 0 it is that by which the one of -n makes 1.
func TestPowerBelowNought(t *testing.T) {
	for n := range 1000 {
		if got := Mul(Power(n), Power(-n)); got != 1 {
			t.Fatalf("Power(%d) times Power(%d) = %d, want 1", n, -n, got)
		}
	}
}

// A1: of whatever n, those at the ends of int too, where -n of the least one wraps round.
func TestPowerAtTheEnds(t *testing.T) {
	if got := Mul(Power(math.MinInt), Power(math.MaxInt)); got != Power(-1) {
		t.Errorf("Power of the least and the greatest int make %d, want %d", got, Power(-1))
	}
	// 2^8 is 1 more than a round of 255, so 2^63 and 2^31 are both as far as 2^7.
	if got := Power(math.MinInt); got != Power(-128) {
		t.Errorf("Power(%d) = %d, want %d", math.MinInt, got, Power(-128))
	}
	if got := Power(math.MaxInt); got != Power(127) {
		t.Errorf("Power(%d) = %d, want %d", math.MaxInt, got, Power(127))
	}
}

// A2: Log is from 0 to 254, and Power of it is the byte.
func TestLogOfEachByte(t *testing.T) {
	for a := 1; a < 256; a++ {
		n, e := Log(byte(a))
		if e != api.OK || n < 0 || n > 254 || Power(n) != byte(a) {
			t.Errorf("Log(%d) = %d, %d", a, n, e)
		}
	}
}

// A2: Inverse makes 1.
func TestInverseOfEachByte(t *testing.T) {
	for a := 1; a < 256; a++ {
		i, e := Inverse(byte(a))
		if e != api.OK || longProduct(byte(a), i) != 1 {
			t.Errorf("Inverse(%d) = %d, %d", a, i, e)
		}
	}
}

// A2: what Divide answers, times b, is a.
func TestDivideOfEachTwo(t *testing.T) {
	for a := range 256 {
		for b := 1; b < 256; b++ {
			d, e := Divide(byte(a), byte(b))
			if e != api.OK || longProduct(d, byte(b)) != byte(a) {
				t.Fatalf("Divide(%d, %d) = %d, %d", a, b, d, e)
			}
		}
	}
}

// A2, P1: of 0 there is none, and the other result is 0.
func TestNoneOfNought(t *testing.T) {
	if n, e := Log(0); n != 0 || e != api.ErrNone {
		t.Errorf("Log(0) = %d, %d", n, e)
	}
	if i, e := Inverse(0); i != 0 || e != api.ErrNone {
		t.Errorf("Inverse(0) = %d, %d", i, e)
	}
	for a := range 256 {
		if d, e := Divide(byte(a), 0); d != 0 || e != api.ErrNone {
			t.Errorf("Divide(%d, 0) = %d, %d", a, d, e)
		}
	}
}

// A3: the laws of a field hold, with xor as sum.
func TestBytesAreAField(t *testing.T) {
	for i := range 256 {
		a := byte(i)
		if Mul(a, 1) != a || Mul(a, 0) != 0 {
			t.Fatalf("%d times 1 is %d, times 0 is %d", a, Mul(a, 1), Mul(a, 0))
		}
		for k := range 256 {
			b := byte(k)
			if Mul(a, b) != Mul(b, a) {
				t.Fatalf("%d and %d do not commute", a, b)
			}
			for c := byte(0); c < 250; c += 7 {
				if Mul(a, Mul(b, c)) != Mul(Mul(a, b), c) {
					t.Fatalf("%d, %d and %d do not associate", a, b, c)
				}
				if Mul(a, b^c) != Mul(a, b)^Mul(a, c) {
					t.Fatalf("%d does not distribute over %d and %d", a, b, c)
				}
			}
		}
	}
}

// A3: each byte but 0 is just one of 255 powers.
func TestEachByteIsAPower(t *testing.T) {
	var times [256]int
	for n := range 255 {
		times[Power(n)]++
	}
	for a, n := range times {
		if want := min(a, 1); n != want {
			t.Errorf("%d is a power %d times, want %d", a, n, want)
		}
	}
}

// P3: an answer hangs on what was handed in, not on calls between.
func TestAnswersStay(t *testing.T) {
	ask := func() [6]int {
		log, e := Log(77)
		inverse, f := Inverse(77)
		divided, _ := Divide(9, 77)
		return [6]int{int(Power(-9)), log, int(e), int(inverse), int(f), int(divided)}
	}
	first := ask()
	for a := range 256 {
		Log(byte(a))
		Inverse(byte(a))
		Divide(1, byte(a))
		Power(a)
	}
	if again := ask(); again != first {
		t.Errorf("first %v, then %v", first, again)
	}
}
