package poly

import (
	"bytes"
	"math/rand/v2"
	"slices"
	"testing"

	"wristband/api"
	"wristband/gf"
)

// otherPlain takes the last coefficient off as long as it is 0.
func otherPlain(p []byte) []byte {
	p = slices.Clone(p)
	for len(p) > 0 && p[len(p)-1] == 0 {
		p = p[:len(p)-1]
	}
	return p
}

// at is the coefficient of x to the power of k: 0, where none is told.
func at(p []byte, k int) byte {
	if k < 0 || k >= len(p) {
		return 0
	}
	return p[k]
}

// otherAdd sums each two coefficients that are at one place.
func otherAdd(p, q []byte) []byte {
	sum := []byte{}
	for k := range len(p) + len(q) {
		sum = append(sum, at(p, k)^at(q, k))
	}
	return otherPlain(sum)
}

// otherMul sums, for each place of the product, all products of two coefficients whose places make it.
func otherMul(p, q []byte) []byte {
	product := []byte{}
	for k := range len(p) + len(q) {
		c := byte(0)
		for i := range k + 1 {
			c ^= gf.Mul(at(p, i), at(q, k-i))
		}
		product = append(product, c)
	}
	return otherPlain(product)
}

// otherEval sums the coefficients, each times its own power of x.
func otherEval(p []byte, x byte) byte {
	value := byte(0)
	for k, c := range p {
		value ^= gf.Mul(c, gf.Pow(x, k))
	}
	return value
}

// otherSlope adds each k-th coefficient k times.
func otherSlope(p []byte) []byte {
	slope := []byte{}
	for k := 1; k < len(p); k++ {
		c := byte(0)
		for range k {
			c ^= p[k]
		}
		slope = append(slope, c)
	}
	return otherPlain(slope)
}

// few polynomials: all of at most most coefficients, each of which is one of these.
func few(most int, of ...byte) [][]byte {
	all := [][]byte{{}}
	for first := 0; most > 0; most-- {
		longest := all[first:]
		first = len(all)
		for _, p := range longest {
			for _, c := range of {
				all = append(all, append(slices.Clone(p), c))
			}
		}
	}
	return all
}

// some polynomial by chance, of fewer coefficients than below; one in four of them is 0, so that some aren't plain.
func some(r *rand.Rand, below int) []byte {
	p := make([]byte, r.IntN(below))
	for k := range p {
		if r.IntN(4) > 0 {
			p[k] = byte(r.Uint32())
		}
	}
	return p
}

// withNoughts behind it: the same polynomial.
func withNoughts(p []byte, n int) []byte {
	return append(slices.Clone(p), make([]byte, n)...)
}

// one is a polynomial with a coefficient at just one place.
func one(c byte, place int) []byte {
	return append(make([]byte, place), c)
}

// check an answer: that it is plain, and the one that is wanted.
func check(t *testing.T, name string, got, want []byte) {
	t.Helper()
	if len(got) > 0 && got[len(got)-1] == 0 {
		t.Errorf("%s = %v, which isn't plain", name, got)
	}
	if !bytes.Equal(got, want) {
		t.Errorf("%s = %v, want %v", name, got, want)
	}
}

// checkQuo: what q goes so often into, and what is left.
func checkQuo(t *testing.T, p, q, wantOften, wantLeft []byte) {
	t.Helper()
	often, left, e := Quo(p, q)
	if e != api.OK {
		t.Errorf("Quo(%v, %v) tells %v", p, q, e)
	}
	check(t, "Quo", often, wantOften)
	check(t, "Quo's rest", left, wantLeft)
}

// P8.1

func TestPlainAndDegree(t *testing.T) {
	for _, c := range []struct {
		p, plain []byte
		degree   int
	}{
		{nil, nil, -1}, {[]byte{}, nil, -1}, {[]byte{0}, nil, -1}, {[]byte{0, 0, 0}, nil, -1},
		{[]byte{1}, []byte{1}, 0}, {[]byte{255}, []byte{255}, 0}, {[]byte{7, 0}, []byte{7}, 0}, {[]byte{7, 0, 0, 0}, []byte{7}, 0},
		{[]byte{0, 1}, []byte{0, 1}, 1}, {[]byte{0, 0, 3}, []byte{0, 0, 3}, 2}, {[]byte{0, 2, 0}, []byte{0, 2}, 1},
		{[]byte{1, 2, 3}, []byte{1, 2, 3}, 2}, {[]byte{1, 0, 3, 0, 0}, []byte{1, 0, 3}, 2}, {[]byte{0, 0, 128, 0}, []byte{0, 0, 128}, 2},
	} {
		check(t, "Plain", Plain(c.p), c.plain)
		if got := Degree(c.p); got != c.degree {
			t.Errorf("Degree(%v) = %d, want %d", c.p, got, c.degree)
		}
	}
}

func TestPlainAndDegreeOfEachCoefficientAndPlace(t *testing.T) {
	for c := 1; c < 256; c++ {
		for _, place := range []int{0, 1, 2, 7, 254, 255, 256, 1000} {
			p := one(byte(c), place)
			for _, n := range []int{0, 1, 300} {
				check(t, "Plain", Plain(withNoughts(p, n)), p)
				if got := Degree(withNoughts(p, n)); got != place {
					t.Fatalf("Degree of %d at %d and %d noughts = %d", c, place, n, got)
				}
			}
		}
	}
}

func TestAddExamples(t *testing.T) {
	for _, c := range []struct{ p, q, want []byte }{
		{nil, nil, nil}, {nil, []byte{0, 0}, nil}, {[]byte{0}, nil, nil}, {[]byte{5}, []byte{5}, nil},
		{[]byte{1, 2, 3}, []byte{1, 2, 3}, nil}, {[]byte{1, 2, 3}, []byte{4, 2, 3}, []byte{5}}, {[]byte{1, 2, 3}, []byte{0, 1, 3}, []byte{1, 3}},
		{[]byte{1}, []byte{0, 0, 9}, []byte{1, 0, 9}}, {[]byte{0, 0, 9}, []byte{1}, []byte{1, 0, 9}}, {[]byte{1, 2, 3, 0, 0}, []byte{0, 0, 3, 0, 0, 0}, []byte{1, 2}},
		{nil, []byte{4, 0, 5}, []byte{4, 0, 5}}, {[]byte{4, 0, 5}, nil, []byte{4, 0, 5}}, {[]byte{200, 255}, []byte{100, 15}, []byte{172, 240}},
	} {
		check(t, "Add", Add(c.p, c.q), c.want)
	}
}

func TestMulExamples(t *testing.T) {
	for _, c := range []struct{ p, q, want []byte }{
		{nil, nil, nil}, {nil, []byte{1, 2}, nil}, {[]byte{1, 2}, nil, nil}, {[]byte{0, 0}, []byte{1, 2}, nil}, {[]byte{1, 2}, []byte{0}, nil}, {[]byte{0}, []byte{0, 0}, nil},
		{[]byte{1}, []byte{6, 0, 7}, []byte{6, 0, 7}}, {[]byte{6, 0, 7}, []byte{1, 0}, []byte{6, 0, 7}}, {[]byte{0, 1}, []byte{6, 0, 7}, []byte{0, 6, 0, 7}},
		{[]byte{1, 1}, []byte{1, 1}, []byte{1, 0, 1}}, {[]byte{2, 1}, []byte{4, 1}, []byte{8, 6, 1}}, {[]byte{128}, []byte{2, 0, 2, 0}, []byte{45, 0, 45}},
		{[]byte{0, 0, 3}, []byte{0, 3}, []byte{0, 0, 0, 5}}, {[]byte{1, 1, 1, 0}, []byte{1, 1, 0, 0}, []byte{1, 0, 0, 1}},
	} {
		check(t, "Mul", Mul(c.p, c.q), c.want)
	}
}

func TestTimesExamples(t *testing.T) {
	for _, c := range []struct {
		p    []byte
		a    byte
		want []byte
	}{
		{nil, 0, nil}, {nil, 9, nil}, {[]byte{0, 0}, 9, nil}, {[]byte{1, 2, 3}, 0, nil},
		{[]byte{1, 2, 3}, 1, []byte{1, 2, 3}}, {[]byte{1, 2, 3, 0}, 1, []byte{1, 2, 3}}, {[]byte{1, 0, 3}, 3, []byte{3, 0, 5}}, {[]byte{128, 0, 64, 0}, 2, []byte{45, 0, 128}},
	} {
		check(t, "Times", Times(c.p, c.a), c.want)
	}
}

func TestEvalExamples(t *testing.T) {
	for _, c := range []struct {
		p       []byte
		x, want byte
	}{
		{nil, 0, 0}, {nil, 7, 0}, {[]byte{0, 0, 0}, 7, 0}, {[]byte{9}, 0, 9}, {[]byte{9}, 200, 9}, {[]byte{9, 8, 7}, 0, 9}, {[]byte{9, 8, 7}, 1, 6},
		{[]byte{0, 1}, 77, 77}, {[]byte{1, 0, 1}, 2, 5}, {[]byte{1, 0, 1}, 1, 0}, {[]byte{1, 2, 3}, 2, 9}, {[]byte{1, 2, 3, 0, 0}, 2, 9}, {[]byte{0, 2}, 128, 45}, {[]byte{0, 0, 1}, 16, 45},
	} {
		if got := Eval(c.p, c.x); got != c.want {
			t.Errorf("Eval(%v, %d) = %d, want %d", c.p, c.x, got, c.want)
		}
	}
}

func TestSumsAndProductsOfEachTwo(t *testing.T) {
	all := few(4, 0, 1, 2, 200)
	for _, p := range all {
		for _, q := range all {
			check(t, "Add", Add(p, q), otherAdd(p, q))
			check(t, "Mul", Mul(p, q), otherMul(p, q))
		}
		if t.Failed() {
			return
		}
	}
}

func TestSumsAndProductsByChance(t *testing.T) {
	r := rand.New(rand.NewPCG(80, 81))
	for range 500 {
		p, q := some(r, 60), some(r, 60)
		check(t, "Add", Add(p, q), otherAdd(p, q))
		check(t, "Mul", Mul(p, q), otherMul(p, q))
	}
	long := make([]byte, 3000)
	for k := range long {
		long[k] = byte(r.Uint32())
	}
	check(t, "Mul", Mul(long, long[:50]), otherMul(long[:50], long))
}

func TestTimesOfEachElement(t *testing.T) {
	r := rand.New(rand.NewPCG(82, 83))
	for a := range 256 {
		for range 10 {
			p := some(r, 40)
			want := slices.Clone(p)
			for k := range want {
				want[k] = gf.Mul(want[k], byte(a))
			}
			check(t, "Times", Times(p, byte(a)), otherPlain(want))
		}
	}
}

func TestEvalAtEachPlace(t *testing.T) {
	r := rand.New(rand.NewPCG(84, 85))
	for x := range 256 {
		for _, below := range []int{1, 2, 3, 10, 300, 600} {
			p := some(r, below)
			if got, want := Eval(p, byte(x)), otherEval(p, byte(x)); got != want {
				t.Errorf("Eval(%v, %d) = %d, want %d", p, x, got, want)
			}
		}
	}
}

// P8.2

func TestQuoExamples(t *testing.T) {
	checkQuo(t, []byte{1, 0, 1}, []byte{1, 1}, []byte{1, 1}, nil)
	checkQuo(t, []byte{1, 0, 1, 0, 0}, []byte{1, 1, 0}, []byte{1, 1}, nil)
	checkQuo(t, []byte{3, 0, 1}, []byte{1, 1}, []byte{1, 1}, []byte{2})
	checkQuo(t, nil, []byte{1, 1}, nil, nil)
	checkQuo(t, []byte{0, 0, 0}, []byte{5}, nil, nil)
	checkQuo(t, []byte{9}, []byte{3, 1}, nil, []byte{9})
	checkQuo(t, []byte{9, 8, 0, 0}, []byte{0, 0, 7}, nil, []byte{9, 8})
	checkQuo(t, []byte{9, 8, 7}, []byte{1}, []byte{9, 8, 7}, nil)
	checkQuo(t, []byte{45, 0, 90}, []byte{2}, []byte{128, 0, 45}, nil)
	checkQuo(t, []byte{9, 8, 7}, []byte{9, 8, 7}, []byte{1}, nil)
	checkQuo(t, []byte{1, 8, 7}, []byte{9, 8, 7}, []byte{1}, []byte{8})
	checkQuo(t, []byte{6, 5, 4, 3}, []byte{0, 0, 1}, []byte{4, 3}, []byte{6, 5})
	checkQuo(t, []byte{0, 0, 0, 0, 45}, []byte{0, 0, 2}, []byte{0, 0, 128}, nil)
}

func TestQuoByNone(t *testing.T) {
	for _, p := range [][]byte{nil, {}, {0}, {1}, {1, 2, 3}, {0, 0, 7, 0}} {
		for _, q := range [][]byte{nil, {}, {0}, {0, 0, 0, 0, 0}} {
			if often, left, e := Quo(p, q); len(often) != 0 || len(left) != 0 || e != api.ErrArg {
				t.Errorf("Quo(%v, %v) = %v, %v, %v, want none, none, argument", p, q, often, left, e)
			}
		}
	}
}

// TestQuoOfWhatWasMade: what is made of how often and what is left is parted into just these.
func TestQuoOfWhatWasMade(t *testing.T) {
	r := rand.New(rand.NewPCG(86, 87))
	for range 2000 {
		often, q := some(r, 30), append(some(r, 30), byte(1+r.IntN(255)))
		left := make([]byte, r.IntN(len(q)))
		for k := range left {
			left[k] = byte(r.Uint32())
		}
		p := otherAdd(otherMul(often, q), left)
		checkQuo(t, withNoughts(p, r.IntN(4)), withNoughts(q, r.IntN(4)), otherPlain(often), otherPlain(left))
	}
}

func TestQuoByEachLastCoefficient(t *testing.T) {
	for c := 1; c < 256; c++ {
		q := []byte{17, 0, byte(c)}
		often, left := []byte{1, 0, 99}, []byte{0, 250}
		checkQuo(t, otherAdd(otherMul(often, q), left), q, often, left)
	}
}

func TestSlopeExamples(t *testing.T) {
	for _, c := range []struct{ p, want []byte }{
		{nil, nil}, {[]byte{0}, nil}, {[]byte{7}, nil}, {[]byte{7, 0, 0}, nil}, {[]byte{7, 5}, []byte{5}}, {[]byte{7, 5, 0}, []byte{5}}, {[]byte{7, 5, 3}, []byte{5}}, {[]byte{7, 0, 3}, nil},
		{[]byte{0, 0, 0, 9}, []byte{0, 0, 9}}, {[]byte{1, 2, 3, 4}, []byte{2, 0, 4}}, {[]byte{1, 2, 3, 4, 5}, []byte{2, 0, 4}}, {[]byte{1, 2, 3, 4, 5, 6}, []byte{2, 0, 4, 0, 6}},
		{[]byte{0, 0, 1, 0, 1, 0, 1}, nil},
	} {
		check(t, "Slope", Slope(c.p), c.want)
	}
}

func TestSlopeOfEachPlace(t *testing.T) {
	for place := range 600 {
		check(t, "Slope", Slope(one(200, place)), otherSlope(one(200, place)))
	}
}

func TestSlopeByChance(t *testing.T) {
	r := rand.New(rand.NewPCG(88, 89))
	for range 1000 {
		p := some(r, 60)
		check(t, "Slope", Slope(p), otherSlope(p))
	}
	for _, p := range few(5, 0, 1, 77) {
		check(t, "Slope", Slope(p), otherSlope(p))
	}
}

// P8.3

func TestQuoOfEachTwo(t *testing.T) {
	all := few(4, 0, 1, 3, 128)
	for _, p := range all {
		for _, q := range all {
			if Degree(q) < 0 {
				continue
			}
			often, left, e := Quo(p, q)
			if e != api.OK || Degree(left) >= Degree(q) {
				t.Fatalf("Quo(%v, %v) = %v, %v, %v", p, q, often, left, e)
			}
			check(t, "what was divided", Add(Mul(often, q), left), Plain(p))
		}
	}
}

func TestQuoIsMadeWholeAgain(t *testing.T) {
	r := rand.New(rand.NewPCG(90, 91))
	for range 2000 {
		p, q := some(r, 80), append(some(r, 40), byte(1+r.IntN(255)))
		often, left, e := Quo(p, q)
		if e != api.OK || Degree(left) >= Degree(q) {
			t.Fatalf("Quo(%v, %v) = %v, %v, %v", p, q, often, left, e)
		}
		check(t, "what was divided", Add(Mul(often, q), left), Plain(p))
		x := byte(r.Uint32())
		if Eval(p, x) != gf.Add(gf.Mul(Eval(often, x), Eval(q, x)), Eval(left, x)) {
			t.Errorf("Quo(%v, %v): the values at %d don't go together", p, q, x)
		}
	}
}

func TestValuesGoTogether(t *testing.T) {
	r := rand.New(rand.NewPCG(92, 93))
	for range 30 {
		p, q, a := some(r, 20), some(r, 20), byte(r.Uint32())
		for y := range 256 {
			x := byte(y)
			atP, atQ := Eval(p, x), Eval(q, x)
			if Eval(Add(p, q), x) != gf.Add(atP, atQ) {
				t.Errorf("the sum of %v and %v at %d", p, q, x)
			}
			if Eval(Mul(p, q), x) != gf.Mul(atP, atQ) {
				t.Errorf("the product of %v and %v at %d", p, q, x)
			}
			if Eval(Times(p, a), x) != gf.Mul(atP, a) {
				t.Errorf("%v times %d at %d", p, a, x)
			}
			if Eval(Plain(p), x) != atP {
				t.Errorf("%v, plain, at %d", p, x)
			}
		}
	}
}

func TestSlopesGoTogether(t *testing.T) {
	r := rand.New(rand.NewPCG(94, 95))
	for range 500 {
		p, q := some(r, 30), some(r, 30)
		check(t, "a sum's slope", Slope(Add(p, q)), Add(Slope(p), Slope(q)))
		check(t, "a product's slope", Slope(Mul(p, q)), Add(Mul(Slope(p), q), Mul(p, Slope(q))))
	}
}

// TestGoesThroughItsPlaces: by a product of x less each of some places, just these leave 0.
func TestGoesThroughItsPlaces(t *testing.T) {
	p := []byte{1}
	for n := range 255 {
		p = Mul(p, []byte{gf.Exp(n), 1})
		for y := range 256 {
			k, e := gf.Log(byte(y))
			if (Eval(p, byte(y)) == 0) != (e == api.OK && k <= n) {
				t.Fatalf("the product up to the power %d at %d: %d", n, y, Eval(p, byte(y)))
			}
		}
	}
	// All elements but 0 are those whose power 255 is 1.
	check(t, "the product of all", p, Add(one(1, 255), []byte{1}))
}

// The rules that hold everywhere.

// answers of all calls whose answer is a list.
func answers(p, q []byte) [][]byte {
	often, left, _ := Quo(p, q)
	return [][]byte{Plain(p), Add(p, q), Add(q, p), Mul(p, q), Mul(q, p), Times(p, 1), Times(p, 7), often, left, Slope(p)}
}

func TestAnswersAreNewMemory(t *testing.T) {
	for _, c := range []struct{ p, q []byte }{
		{[]byte{1, 2, 3}, nil}, {[]byte{1, 2, 3}, []byte{1}}, {[]byte{1, 2, 3}, []byte{0}}, {[]byte{1, 2}, []byte{3, 4, 5, 6}}, {[]byte{1, 2, 3, 0, 0}, []byte{9, 0, 8, 0}},
		{[]byte{1, 2, 3, 4, 5, 6}, []byte{3, 2, 1}}, {nil, []byte{5, 5}}, {[]byte{0, 0}, []byte{5, 5}}, {[]byte{7}, []byte{7}},
	} {
		p, q := append(slices.Clone(c.p), 111)[:len(c.p)], append(slices.Clone(c.q), 222)[:len(c.q)]
		got := answers(p, q)
		want := answers(slices.Clone(c.p), slices.Clone(c.q))
		if !bytes.Equal(p, c.p) || !bytes.Equal(q, c.q) || p[:len(p)+1][len(p)] != 111 || q[:len(q)+1][len(q)] != 222 {
			t.Errorf("%v and %v came back as %v and %v, or their spare room did", c.p, c.q, p, q)
		}
		for i, a := range got {
			// All the room of an answer is written over: nothing else may be seen to change by it.
			a = a[:cap(a)]
			for k := range a {
				a[k] ^= 255
			}
			for j := i + 1; j < len(got); j++ {
				check(t, "another answer", got[j], want[j])
			}
		}
		if !bytes.Equal(p, c.p) || !bytes.Equal(q, c.q) || p[:len(p)+1][len(p)] != 111 || q[:len(q)+1][len(q)] != 222 {
			t.Errorf("%v and %v share memory with an answer", c.p, c.q)
		}
	}
}

// TestOneListTwice: a list that is handed in as both polynomials.
func TestOneListTwice(t *testing.T) {
	p := []byte{3, 0, 5, 6, 0}
	check(t, "Add", Add(p, p), nil)
	check(t, "Mul", Mul(p, p), otherMul(p, p))
	checkQuo(t, p, p, []byte{1}, nil)
	check(t, "what was handed in", p[:4], []byte{3, 0, 5, 6})
}
