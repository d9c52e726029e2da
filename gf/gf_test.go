package gf

import (
	"math"
	"math/rand/v2"
	"testing"

	"wristband/api"
)

// otherMul multiplies the polynomials as they are, and only then divides by the modulus, the highest bit first.
func otherMul(a, b byte) byte {
	product := 0
	for i := range 8 {
		if b&(1<<i) != 0 {
			product ^= int(a) << i
		}
	}
	for i := 14; i >= 8; i-- {
		if product&(1<<i) != 0 {
			product ^= 0b100101101 << (i - 8)
		}
	}
	return byte(product)
}

// otherPow multiplies so often.
func otherPow(a byte, n int) byte {
	p := byte(1)
	for range n {
		p = otherMul(p, a)
	}
	return p
}

// from0to254 looks for the number that differs from n by a multiple of 255.
func from0to254(n int) int {
	for k := range 255 {
		if n%255 == k || n%255 == k-255 {
			return k
		}
	}
	panic("no such number")
}

// farNumbers are at the edges of int, and of what is reckoned modulo 255.
func farNumbers() []int {
	l := []int{math.MaxInt, math.MaxInt - 1, math.MinInt, math.MinInt + 1, 1 << 31, -1 << 31, 1<<32 - 1, 255 << 40, -255 << 40, 255<<40 - 1, -255<<40 + 1}
	for n := -800; n <= 800; n++ {
		l = append(l, n)
	}
	r := rand.New(rand.NewPCG(20, 21))
	for range 100 {
		l = append(l, int(r.Uint64()))
	}
	return l
}

// P7.1

func TestAdd(t *testing.T) {
	for _, c := range []struct{ a, b, want byte }{
		{0, 0, 0}, {0, 1, 1}, {1, 1, 0}, {1, 2, 3}, {3, 1, 2}, {255, 255, 0}, {255, 0, 255}, {200, 100, 172}, {128, 128, 0}, {240, 15, 255},
	} {
		if got := Add(c.a, c.b); got != c.want {
			t.Errorf("Add(%d, %d) = %d, want %d", c.a, c.b, got, c.want)
		}
	}
}

// TestAddEachCoefficient reckons each of them modulo 2.
func TestAddEachCoefficient(t *testing.T) {
	for a := range 256 {
		for b := range 256 {
			want := 0
			for place := 1; place < 256; place *= 2 {
				want += (a/place + b/place) % 2 * place
			}
			if got := Add(byte(a), byte(b)); got != byte(want) {
				t.Fatalf("Add(%d, %d) = %d, want %d", a, b, got, want)
			}
		}
	}
}

func TestMulExamples(t *testing.T) {
	for _, c := range []struct{ a, b, want byte }{
		{128, 2, 45}, {2, 128, 45},
		{0, 0, 0}, {0, 255, 0}, {255, 0, 0}, {1, 1, 1}, {1, 255, 255}, {255, 1, 255},
		{2, 2, 4}, {3, 3, 5}, {64, 2, 128}, {16, 16, 45}, {192, 2, 173}, {45, 2, 90}, {128, 4, 90}, {128, 8, 180}, {128, 16, 69},
		{5, 7, 27}, {15, 15, 85},
	} {
		if got := Mul(c.a, c.b); got != c.want {
			t.Errorf("Mul(%d, %d) = %d, want %d", c.a, c.b, got, c.want)
		}
	}
}

func TestMulEachTwo(t *testing.T) {
	for a := range 256 {
		for b := range 256 {
			if got, want := Mul(byte(a), byte(b)), otherMul(byte(a), byte(b)); got != want {
				t.Fatalf("Mul(%d, %d) = %d, want %d", a, b, got, want)
			}
		}
	}
}

func TestPowExamples(t *testing.T) {
	for _, c := range []struct {
		a    byte
		n    int
		want byte
	}{
		{2, 0, 1}, {2, 1, 2}, {2, 7, 128}, {2, 8, 45}, {2, 9, 90}, {2, 255, 1}, {2, 256, 2}, {2, 263, 45}, {2, -255, 1}, {2, -254, 2}, {2, -247, 45},
		{2, -1, 150}, {2, 254, 150}, {2, -256, 150},
		{3, 0, 1}, {3, 1, 3}, {3, 2, 5}, {3, 3, 15}, {16, 2, 45},
		{1, 0, 1}, {1, 77, 1}, {1, -77, 1}, {1, math.MaxInt, 1}, {1, math.MinInt, 1},
	} {
		if got := Pow(c.a, c.n); got != c.want {
			t.Errorf("Pow(%d, %d) = %d, want %d", c.a, c.n, got, c.want)
		}
	}
}

func TestPowOfEach(t *testing.T) {
	numbers := farNumbers()
	for a := 1; a < 256; a++ {
		want := [255]byte{}
		for n := range want {
			want[n] = otherPow(byte(a), n)
		}
		for _, n := range numbers {
			if got := Pow(byte(a), n); got != want[from0to254(n)] {
				t.Fatalf("Pow(%d, %d) = %d, want %d", a, n, got, want[from0to254(n)])
			}
		}
	}
}

// TestPowOfNone: the number isn't reckoned modulo 255 there, so only that of 0 itself is 1.
func TestPowOfNone(t *testing.T) {
	for _, n := range farNumbers() {
		want := byte(0)
		if n == 0 {
			want = 1
		}
		if got := Pow(0, n); got != want {
			t.Errorf("Pow(0, %d) = %d, want %d", n, got, want)
		}
	}
}

func TestInvExamples(t *testing.T) {
	for _, c := range []struct{ a, want byte }{{1, 1}, {2, 150}, {150, 2}, {4, 75}, {75, 4}} {
		if got, e := Inv(c.a); got != c.want || e != api.OK {
			t.Errorf("Inv(%d) = %d, %v, want %d, ok", c.a, got, e, c.want)
		}
	}
}

func TestInvOfEach(t *testing.T) {
	for a := 1; a < 256; a++ {
		got, e := Inv(byte(a))
		if e != api.OK || otherMul(byte(a), got) != 1 {
			t.Errorf("Inv(%d) = %d, %v, and their product is %d", a, got, e, otherMul(byte(a), got))
		}
	}
}

func TestInvOfNone(t *testing.T) {
	if got, e := Inv(0); got != 0 || e != api.ErrArg {
		t.Errorf("Inv(0) = %d, %v, want 0, argument", got, e)
	}
}

// P7.2

func TestExp(t *testing.T) {
	want := [255]byte{}
	for n := range want {
		want[n] = otherPow(2, n)
	}
	for _, n := range farNumbers() {
		if got := Exp(n); got != want[from0to254(n)] || got != Pow(2, n) {
			t.Errorf("Exp(%d) = %d, want %d", n, got, want[from0to254(n)])
		}
	}
}

func TestExpAndLogExamples(t *testing.T) {
	for _, c := range []struct {
		n int
		a byte
	}{
		{0, 1}, {1, 2}, {2, 4}, {3, 8}, {4, 16}, {5, 32}, {6, 64}, {7, 128}, {8, 45}, {9, 90}, {10, 180}, {11, 69}, {12, 138}, {13, 57}, {254, 150}, {253, 75},
	} {
		if got := Exp(c.n); got != c.a {
			t.Errorf("Exp(%d) = %d, want %d", c.n, got, c.a)
		}
		if got, e := Log(c.a); got != c.n || e != api.OK {
			t.Errorf("Log(%d) = %d, %v, want %d, ok", c.a, got, e, c.n)
		}
	}
}

func TestLogOfEach(t *testing.T) {
	was := [255]bool{}
	for a := 1; a < 256; a++ {
		n, e := Log(byte(a))
		if e != api.OK || n < 0 || n > 254 {
			t.Fatalf("Log(%d) = %d, %v", a, n, e)
		}
		if otherPow(2, n) != byte(a) || Exp(n) != byte(a) || was[n] {
			t.Errorf("Log(%d) = %d, whose power is %d; another element's: %v", a, n, Exp(n), was[n])
		}
		was[n] = true
	}
}

func TestLogOfNone(t *testing.T) {
	if n, e := Log(0); n != 0 || e != api.ErrArg {
		t.Errorf("Log(0) = %d, %v, want 0, argument", n, e)
	}
}

func TestPowersOf2AreAllElementsBut0(t *testing.T) {
	was := [256]bool{}
	for n := range 255 {
		a := Exp(n)
		if a == 0 || was[a] {
			t.Errorf("Exp(%d) = %d, which is 0 or was there already", n, a)
		}
		was[a] = true
		if got, e := Log(a); got != n || e != api.OK {
			t.Errorf("Log(Exp(%d)) = %d, %v", n, got, e)
		}
	}
}

// P7.3

// TestFieldOfEachThree looks the products up that Mul told of each two.
func TestFieldOfEachThree(t *testing.T) {
	product := [256][256]byte{}
	for a := range 256 {
		for b := range 256 {
			product[a][b] = Mul(byte(a), byte(b))
		}
	}
	for x := range 256 {
		a := byte(x)
		for y := range 256 {
			b := byte(y)
			if Add(a, b) != Add(b, a) || product[a][b] != product[b][a] {
				t.Fatalf("%d and %d: their order shows", a, b)
			}
			for z := range 256 {
				c := byte(z)
				if Add(Add(a, b), c) != Add(a, Add(b, c)) || product[product[a][b]][c] != product[a][product[b][c]] {
					t.Fatalf("%d, %d and %d: their order shows", a, b, c)
				}
				if product[a][Add(b, c)] != Add(product[a][b], product[a][c]) {
					t.Fatalf("%d times %d and %d: not part by part", a, b, c)
				}
			}
		}
	}
}

func TestFieldHasInverses(t *testing.T) {
	for x := range 256 {
		a := byte(x)
		if Add(a, 0) != a || Mul(a, 1) != a || Add(a, a) != 0 || Mul(a, 0) != 0 {
			t.Errorf("0 and 1 leave %d otherwise", a)
		}
		if a == 0 {
			continue
		}
		inverse, e := Inv(a)
		if e != api.OK || Mul(a, inverse) != 1 || Mul(inverse, a) != 1 {
			t.Errorf("%d times its inverse %d isn't 1", a, inverse)
		}
		if again, e := Inv(inverse); again != a || e != api.OK {
			t.Errorf("the inverse of %d's inverse is %d, %v", a, again, e)
		}
		ones := 0
		for y := range 256 {
			if Mul(a, byte(y)) == 1 {
				ones++
			}
			if y != 0 && Mul(a, byte(y)) == 0 {
				t.Errorf("%d times %d is 0", a, y)
			}
		}
		if ones != 1 {
			t.Errorf("%d has %d inverses", a, ones)
		}
	}
}

func TestPowersGoTogether(t *testing.T) {
	r := rand.New(rand.NewPCG(22, 23))
	for a := 1; a < 256; a++ {
		inverse, _ := Inv(byte(a))
		for range 50 {
			b := byte(1 + r.IntN(255))
			m, n := int(r.Int32())-1<<30, int(r.Int32())-1<<30
			if got, want := Mul(Pow(byte(a), m), Pow(byte(a), n)), Pow(byte(a), m+n); got != want {
				t.Errorf("the powers %d and %d of %d: %d, want %d", m, n, a, got, want)
			}
			if got, want := Mul(Pow(byte(a), n), Pow(b, n)), Pow(Mul(byte(a), b), n); got != want {
				t.Errorf("the powers %d of %d and %d: %d, want %d", n, a, b, got, want)
			}
			if got, want := Pow(inverse, n), Pow(byte(a), -n); got != want {
				t.Errorf("the power %d of %d's inverse: %d, want %d", n, a, got, want)
			}
			logA, _ := Log(byte(a))
			logB, _ := Log(b)
			if got, want := Exp(logA+logB), Mul(byte(a), b); got != want {
				t.Errorf("Exp(Log(%d) + Log(%d)) = %d, want %d", a, b, got, want)
			}
		}
	}
}
