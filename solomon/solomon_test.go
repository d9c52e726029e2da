package solomon

import (
	"bytes"
	"math"
	"math/rand/v2"
	"slices"
	"testing"

	"wristband/api"
	"wristband/gf"
	"wristband/poly"
)

// notSoMany are numbers of checks that may not be.
var notSoMany = []int{0, -1, -2, -64, -255, 65, 66, 128, 255, 256, 257, 1 << 32, 1<<32 + 1, math.MaxInt, math.MinInt, math.MinInt + 1}

// otherGen multiplies by x less a power of 2, again and again, in one list.
func otherGen(n int) []byte {
	gen := make([]byte, n+1)
	gen[0] = 1
	for i := 1; i <= n; i++ {
		for k := i; k > 0; k-- {
			gen[k] = gen[k-1] ^ gf.Mul(gen[k], gf.Pow(2, i))
		}
		gen[0] = gf.Mul(gen[0], gf.Pow(2, i))
	}
	return gen
}

// otherPut shifts the data through a register as long as the checks.
func otherPut(data []byte, n int) []byte {
	gen, register := otherGen(n), make([]byte, n)
	for _, d := range data {
		first := d ^ register[0]
		copy(register, append(register[1:n:n], 0))
		for k := range register {
			register[k] ^= gf.Mul(first, gen[n-1-k])
		}
	}
	return slices.Concat(data, register)
}

// otherValue sums the bytes, each times its own power of x: the last one times that of 0.
func otherValue(b []byte, x byte) byte {
	value := byte(0)
	for k, c := range b {
		value ^= gf.Mul(c, gf.Pow(x, len(b)-1-k))
	}
	return value
}

// otherSigns are the values at the powers of 2 from that of 1 on.
func otherSigns(b []byte, n int) []byte {
	signs := []byte{}
	for i := 1; i <= n; i++ {
		signs = append(signs, otherValue(b, gf.Pow(2, i)))
	}
	return signs
}

// some bytes by chance.
func some(r *rand.Rand, n int) []byte {
	b := make([]byte, n)
	for k := range b {
		b[k] = byte(r.Uint32())
	}
	return b
}

// put checks that may be put.
func put(t *testing.T, data []byte, n int) []byte {
	t.Helper()
	b, e := Put(data, n)
	if e != api.OK || len(b) != len(data)+n {
		t.Fatalf("Put(%v, %d) = %v, %v", data, n, b, e)
	}
	return b
}

// spoil a copy of some bytes at so many places by chance, in each of them for certain.
func spoil(r *rand.Rand, b []byte, places int) []byte {
	b = slices.Clone(b)
	for _, k := range r.Perm(len(b))[:places] {
		b[k] ^= byte(1 + r.IntN(255))
	}
	return b
}

// unlike: at how many places are two not the same?
func unlike(a, b []byte) int {
	n := 0
	for k := range a {
		if a[k] != b[k] {
			n++
		}
	}
	return n
}

// check an answer and its error.
func check(t *testing.T, name string, got []byte, e api.Errno, want []byte, wantE api.Errno) {
	t.Helper()
	if !bytes.Equal(got, want) || e != wantE {
		t.Errorf("%s = %v, %v, want %v, %v", name, got, e, want, wantE)
	}
}

// P9.1

func TestGenExamples(t *testing.T) {
	for n, want := range map[int][]byte{
		1: {2, 1}, 2: {8, 6, 1}, 3: {64, 56, 14, 1},
		// These are those of a barcode that is known well, which has the same field and the same places.
		5:  {228, 48, 15, 111, 62, 1},
		7:  {23, 68, 144, 134, 240, 92, 254, 1},
		10: {28, 24, 185, 166, 223, 248, 116, 255, 110, 61, 1},
		11: {175, 138, 205, 12, 194, 168, 39, 245, 60, 97, 120, 1},
		12: {41, 153, 158, 91, 61, 42, 142, 213, 97, 178, 100, 242, 1},
	} {
		gen, e := Gen(n)
		check(t, "Gen", gen, e, want, api.OK)
	}
}

func TestGenOfEachNumber(t *testing.T) {
	for n := 1; n <= 64; n++ {
		gen, e := Gen(n)
		check(t, "Gen", gen, e, otherGen(n), api.OK)
		for x := range 256 {
			k, e := gf.Log(byte(x))
			if (poly.Eval(gen, byte(x)) == 0) != (e == api.OK && 1 <= k && k <= n) {
				t.Errorf("Gen(%d) at %d: %d", n, x, poly.Eval(gen, byte(x)))
			}
		}
	}
}

func TestGenOfNotSoMany(t *testing.T) {
	for _, n := range notSoMany {
		gen, e := Gen(n)
		check(t, "Gen", gen, e, nil, api.ErrArg)
	}
}

func TestPutExamples(t *testing.T) {
	for _, c := range []struct {
		data []byte
		n    int
		want []byte
	}{
		{[]byte{1}, 1, []byte{1, 2}}, {[]byte{128}, 1, []byte{128, 45}}, {[]byte{1, 2}, 1, []byte{1, 2, 0}}, {[]byte{0, 1}, 1, []byte{0, 1, 2}}, {[]byte{1, 0}, 1, []byte{1, 0, 4}},
		{[]byte{1}, 2, []byte{1, 6, 8}}, {[]byte{1}, 3, []byte{1, 14, 56, 64}}, {[]byte{0, 0, 1}, 2, []byte{0, 0, 1, 6, 8}},
		{nil, 1, []byte{0}}, {[]byte{}, 3, []byte{0, 0, 0}}, {[]byte{0}, 2, []byte{0, 0, 0}}, {[]byte{0, 0, 0}, 1, []byte{0, 0, 0, 0}},
		// The generator itself is fine: behind its coefficients from the last one on, nothing is left.
		{[]byte{1, 6, 8}, 2, []byte{1, 6, 8, 0, 0}}, {[]byte{0, 1, 2}, 1, []byte{0, 1, 2, 0}},
		// The example of the barcode that is known well.
		{[]byte{142, 164, 186}, 5, []byte{142, 164, 186, 114, 25, 5, 88, 102}},
	} {
		b, e := Put(c.data, c.n)
		check(t, "Put", b, e, c.want, api.OK)
	}
}

// TestPutOfEachLength: each number of checks behind data of each length, up to the one that makes 255 bytes.
func TestPutOfEachLength(t *testing.T) {
	r := rand.New(rand.NewPCG(100, 101))
	for n := 1; n <= 64; n++ {
		for _, m := range []int{0, 1, 2, n - 1, n, n + 1, r.IntN(256 - n), 254 - n, 255 - n} {
			data := some(r, m)
			b, e := Put(data, n)
			check(t, "Put", b, e, otherPut(data, n), api.OK)
			if !bytes.Equal(otherSigns(b, n), make([]byte, n)) {
				t.Errorf("Put(%v, %d) = %v, which isn't 0 at all places", data, n, b)
			}
		}
	}
}

// TestPutOfOneByte: each place of 255 bytes, and each byte there.
func TestPutOfOneByte(t *testing.T) {
	for k := range 245 {
		data := make([]byte, 245)
		data[k] = byte(k + 1)
		b, e := Put(data, 10)
		check(t, "Put", b, e, otherPut(data, 10), api.OK)
	}
	for a := range 256 {
		b, e := Put([]byte{byte(a)}, 1)
		check(t, "Put", b, e, []byte{byte(a), gf.Mul(byte(a), 2)}, api.OK)
	}
}

func TestPutOfWhatMayNotBe(t *testing.T) {
	for _, n := range notSoMany {
		// Which n may be is asked ahead of how many bytes there would be.
		for _, m := range []int{0, 1, 100, 254, 255, 256, 1000} {
			b, e := Put(make([]byte, m), n)
			check(t, "Put", b, e, nil, api.ErrArg)
		}
	}
	for n := 1; n <= 64; n++ {
		for _, m := range []int{256 - n, 257 - n, 255, 256, 1000, 70000} {
			b, e := Put(make([]byte, m), n)
			check(t, "Put", b, e, nil, api.ErrLong)
		}
	}
}

// P9.2

func TestSignsExamples(t *testing.T) {
	for _, c := range []struct {
		b     []byte
		signs []byte
	}{
		{[]byte{1, 2}, []byte{0}}, {[]byte{2, 1}, []byte{5}}, {[]byte{1, 2}, []byte{0, 6}}, {[]byte{0}, []byte{0}}, {[]byte{7}, []byte{7}}, {[]byte{0, 7}, []byte{7, 7}}, {[]byte{7, 0}, []byte{14, 28}},
		{[]byte{1, 6, 8}, []byte{0, 0}}, {[]byte{1, 6, 8}, []byte{0, 0, 120}}, {[]byte{1, 0, 0}, []byte{4, 16, 64}}, {[]byte{0, 0, 1}, []byte{1, 1, 1}},
		{[]byte{142, 164, 186, 114, 25, 5, 88, 102}, []byte{0, 0, 0, 0, 0}}, {[]byte{142, 164, 186, 114, 25, 5, 88, 103}, []byte{1, 1, 1, 1, 1}},
		{[]byte{142, 164, 186, 114, 25, 5, 89, 102}, []byte{2, 4, 8, 16, 32}},
	} {
		n := len(c.signs)
		signs, e := Signs(c.b, n)
		check(t, "Signs", signs, e, c.signs, api.OK)
		if want := bytes.Equal(c.signs, make([]byte, n)); Fine(c.b, n) != want {
			t.Errorf("Fine(%v, %d) isn't %v", c.b, n, want)
		}
	}
}

func TestSignsOfEachLength(t *testing.T) {
	r := rand.New(rand.NewPCG(102, 103))
	for n := 1; n <= 64; n++ {
		for _, m := range []int{n, n + 1, n + 2, n + r.IntN(256-n), 254, 255} {
			b := some(r, m)
			want := otherSigns(b, n)
			signs, e := Signs(b, n)
			check(t, "Signs", signs, e, want, api.OK)
			if Fine(b, n) != bytes.Equal(want, make([]byte, n)) {
				t.Errorf("Fine(%v, %d), whose signs are %v", b, n, want)
			}
			if b = make([]byte, m); !Fine(b, n) {
				t.Errorf("%d noughts aren't fine by %d checks", m, n)
			}
		}
	}
}

// TestFineButForOneSign: what is 0 at all places but one isn't fine, whichever that one is.
func TestFineButForOneSign(t *testing.T) {
	for n := 1; n <= 64; n++ {
		for but := 1; but <= n; but++ {
			p := []byte{3}
			for i := 1; i <= n; i++ {
				if i != but {
					p = poly.Mul(p, []byte{gf.Exp(i), 1})
				}
			}
			slices.Reverse(p)
			signs, e := Signs(p, n)
			if e != api.OK || len(signs) != n || signs[but-1] == 0 || bytes.Count(signs, []byte{0}) != n-1 {
				t.Errorf("the signs of %v are %v, %v: want all 0 but the one of %d", p, signs, e, but)
			}
			if Fine(p, n) {
				t.Errorf("%v is fine by %d checks, but for the one of %d", p, n, but)
			}
		}
	}
}

// TestFineByFewerChecks: what is fine by n checks is so by fewer, too, but not by one more, as far as chance goes.
func TestFineByFewerChecks(t *testing.T) {
	b := put(t, []byte("wristband"), 20)
	for n := 1; n <= 64; n++ {
		if Fine(b, n) != (n <= 20) {
			t.Errorf("Fine by %d checks: %v", n, Fine(b, n))
		}
	}
}

func TestSignsOfWhatMayNotBe(t *testing.T) {
	for _, n := range notSoMany {
		// Which n may be is asked ahead of how many bytes there are.
		for _, m := range []int{0, 1, 100, 255, 256, 1000} {
			checkNoSigns(t, make([]byte, m), n, api.ErrArg)
		}
	}
	for n := 1; n <= 64; n++ {
		for _, m := range []int{0, n / 2, n - 1} {
			checkNoSigns(t, make([]byte, m), n, api.ErrShort)
		}
		for _, m := range []int{256, 257, 511, 70000} {
			checkNoSigns(t, make([]byte, m), n, api.ErrLong)
		}
	}
	checkNoSigns(t, nil, 1, api.ErrShort)
	checkNoSigns(t, nil, 0, api.ErrArg)
}

// checkNoSigns: noughts, whose signs would all be 0, have none, and aren't fine.
func checkNoSigns(t *testing.T, b []byte, n int, want api.Errno) {
	t.Helper()
	signs, e := Signs(b, n)
	check(t, "Signs", signs, e, nil, want)
	if Fine(b, n) {
		t.Errorf("%d noughts are fine by %d checks", len(b), n)
	}
}

// P9.3

// TestJustOneWay: of all that may stand behind data, just the checks make it fine.
func TestJustOneWay(t *testing.T) {
	for _, data := range [][]byte{{}, {0}, {1}, {7, 200}} {
		one, two := put(t, data, 1), put(t, data, 2)
		for a := range 256 {
			b := append(slices.Clone(data), byte(a))
			if Fine(b, 1) != bytes.Equal(b, one) {
				t.Errorf("Fine(%v, 1) = %v, and %v were put", b, Fine(b, 1), one)
			}
			for c := range 256 {
				b := append(slices.Clone(data), byte(a), byte(c))
				if Fine(b, 2) != bytes.Equal(b, two) {
					t.Errorf("Fine(%v, 2) = %v, and %v were put", b, Fine(b, 2), two)
				}
			}
		}
	}
}

// TestChecksThatAreSpoilt: other checks, whichever and however many of them, don't make data fine.
func TestChecksThatAreSpoilt(t *testing.T) {
	r := rand.New(rand.NewPCG(104, 105))
	for range 2000 {
		n := 1 + r.IntN(64)
		m := r.IntN(256 - n)
		b := put(t, some(r, m), n)
		other := append(slices.Clone(b[:m]), spoil(r, b[m:], 1+r.IntN(n))...)
		if !Fine(b, n) || Fine(other, n) {
			t.Errorf("by %d checks, %v is fine: %v; %v is: %v", n, b, Fine(b, n), other, Fine(other, n))
		}
	}
}

func TestSumsAreFine(t *testing.T) {
	r := rand.New(rand.NewPCG(106, 107))
	for range 500 {
		n := 1 + r.IntN(64)
		m := r.IntN(256 - n)
		a, b := put(t, some(r, m), n), put(t, some(r, m), n)
		sum := make([]byte, m+n)
		for k := range sum {
			sum[k] = a[k] ^ b[k]
		}
		if !Fine(sum, n) {
			t.Errorf("by %d checks, the sum of %v and %v isn't fine", n, a, b)
		}
		both, e := Put(sum[:m], n)
		check(t, "Put of a sum", both, e, sum, api.OK)
	}
}

// TestUnlikeOnesOfOneByte: any two that are fine, of one byte of data, differ everywhere.
func TestUnlikeOnesOfOneByte(t *testing.T) {
	for _, n := range []int{1, 2, 10, 64} {
		all := [][]byte{}
		for a := range 256 {
			all = append(all, put(t, []byte{byte(a)}, n))
		}
		for i, a := range all {
			for _, b := range all[:i] {
				if unlike(a, b) != n+1 {
					t.Errorf("by %d checks, %v and %v differ in %d places", n, a, b, unlike(a, b))
				}
			}
		}
	}
}

// TestUnlikeOnesOfTwoBytes: the sum of any two that are fine is one of those that are tried here.
func TestUnlikeOnesOfTwoBytes(t *testing.T) {
	for _, n := range []int{1, 3} {
		none := make([]byte, n+2)
		for d := 1; d < 1<<16; d++ {
			if b := put(t, []byte{byte(d >> 8), byte(d)}, n); unlike(b, none) <= n {
				t.Fatalf("by %d checks, %v has too many noughts", n, b)
			}
		}
	}
}

// TestUnlikeOnesNearby: data that differ in few places have checks that differ in all the more.
func TestUnlikeOnesNearby(t *testing.T) {
	r := rand.New(rand.NewPCG(108, 109))
	for range 2000 {
		n := 1 + r.IntN(64)
		m := 1 + r.IntN(255-n)
		a := put(t, some(r, m), n)
		b := put(t, spoil(r, a[:m], 1+r.IntN(min(m, 3))), n)
		if unlike(a, b) <= n {
			t.Errorf("by %d checks, %v and %v differ in %d places", n, a, b, unlike(a, b))
		}
	}
}

// TestSpoiltOnesArentFine: up to as many places as there are checks may be spoilt, and it is seen.
func TestSpoiltOnesArentFine(t *testing.T) {
	r := rand.New(rand.NewPCG(110, 111))
	for range 2000 {
		n := 1 + r.IntN(64)
		b := put(t, some(r, r.IntN(256-n)), n)
		if other := spoil(r, b, 1+r.IntN(n)); Fine(other, n) {
			t.Errorf("by %d checks, %v is fine, and so is %v", n, b, other)
		}
	}
	b := put(t, some(r, 245), 10)
	for k := range b {
		for a := 1; a < 256; a += 2 {
			b[k] ^= byte(a)
			if Fine(b, 10) {
				t.Errorf("%d more at %d is not seen", a, k)
			}
			b[k] ^= byte(a)
		}
	}
}

// The rules that hold everywhere.

func TestAnswersAreNewMemory(t *testing.T) {
	for _, c := range []struct {
		b []byte
		n int
	}{{nil, 1}, {[]byte{1}, 1}, {[]byte{0, 0, 0}, 2}, {[]byte{1, 2, 3, 4, 5}, 3}, {[]byte{9, 8, 7}, 64}, {[]byte{9, 8, 7}, 0}, {bytes.Repeat([]byte{5}, 191), 64}, {bytes.Repeat([]byte{5}, 300), 64}} {
		room := slices.Concat(c.b, bytes.Repeat([]byte{111}, 70))
		b := room[:len(c.b)]
		all, _ := Put(b, c.n)
		signs, _ := Signs(b, c.n)
		gen, _ := Gen(c.n)
		Fine(b, c.n)
		// All the room of an answer is written over: nothing else may be seen to change by it.
		for _, a := range [][]byte{all, signs, gen} {
			a = a[:cap(a)]
			for k := range a {
				a[k] ^= 255
			}
		}
		if !bytes.Equal(room, slices.Concat(c.b, bytes.Repeat([]byte{111}, 70))) {
			t.Errorf("%v came back as %v, or shares memory with an answer", c.b, room)
		}
		again, e := Gen(c.n)
		if e == api.OK {
			check(t, "Gen", again, e, otherGen(c.n), api.OK)
		}
	}
}
