package mend

import (
	"bytes"
	"math"
	"math/rand/v2"
	"slices"
	"testing"

	"wristband/api"
	"wristband/gf"
	"wristband/poly"
	"wristband/solomon"
)

// notSoMany are numbers of checks that may not be.
var notSoMany = []int{0, -1, -2, -63, -64, -255, 65, 66, 67, 128, 255, 256, 257, 1 << 32, 1<<32 + 2, math.MaxInt, math.MinInt, math.MinInt + 1}

// some bytes by chance.
func some(r *rand.Rand, n int) []byte {
	b := make([]byte, n)
	for k := range b {
		b[k] = byte(r.Uint32())
	}
	return b
}

// put checks that may be put.
func put(t *testing.T, data []byte, n int) []byte {
	t.Helper()
	b, e := solomon.Put(data, n)
	if e != api.OK {
		t.Fatalf("Put(%v, %d): %v", data, n, e)
	}
	return b
}

// spoilAt spoils a copy of some bytes at these places, in each of them for certain.
func spoilAt(r *rand.Rand, b []byte, places []int) []byte {
	b = slices.Clone(b)
	for _, k := range places {
		b[k] ^= byte(1 + r.IntN(255))
	}
	return b
}

// spoil a copy of some bytes at so many places by chance.
func spoil(r *rand.Rand, b []byte, places int) []byte {
	return spoilAt(r, b, r.Perm(len(b))[:places])
}

// unlike: at how many places are two not the same?
func unlike(a, b []byte) int {
	n := 0
	for k := range a {
		if a[k] != b[k] {
			n++
		}
	}
	return n
}

// otherMend holds bytes against all lists that are fine, all of which are handed in.
func otherMend(b []byte, n int, all [][]byte) ([]byte, int, api.Errno) {
	for _, a := range all {
		if places := unlike(a, b); places <= n/2 {
			return a, places, api.OK
		}
	}
	return nil, 0, api.ErrMany
}

// check what Mend answers, and that what is handed in stays.
func check(t *testing.T, b []byte, n int, want []byte, wantPlaces int, wantE api.Errno) {
	t.Helper()
	was := slices.Clone(b)
	got, places, e := Mend(b, n)
	if !bytes.Equal(got, want) || places != wantPlaces || e != wantE {
		t.Errorf("Mend(%v, %d) = %v, %d, %v, want %v, %d, %v", was, n, got, places, e, want, wantPlaces, wantE)
	}
	if !bytes.Equal(b, was) {
		t.Errorf("Mend(%v, %d) left %v", was, n, b)
	}
}

// P10.1

func TestMost(t *testing.T) {
	for n, want := range map[int]int{1: 0, 2: 1, 3: 1, 4: 2, 5: 2, 9: 4, 10: 5, 11: 5, 62: 31, 63: 31, 64: 32} {
		if Most(n) != want {
			t.Errorf("Most(%d) = %d, want %d", n, Most(n), want)
		}
	}
	for n := 1; n <= 64; n++ {
		if m := Most(n); 2*m != n && 2*m+1 != n {
			t.Errorf("Most(%d) = %d", n, m)
		}
	}
	for _, n := range notSoMany {
		if Most(n) != 0 {
			t.Errorf("Most(%d) = %d, want 0", n, Most(n))
		}
	}
}

// P10.2

func TestMendExamples(t *testing.T) {
	// A barcode that is known well has these bytes: the checks are the last five of them.
	known := []byte{142, 164, 186, 114, 25, 5, 88, 102}
	for _, c := range []struct {
		b      []byte
		n      int
		want   []byte
		places int
	}{
		{[]byte{1, 6, 8}, 2, []byte{1, 6, 8}, 0}, {[]byte{1, 6, 9}, 2, []byte{1, 6, 8}, 1}, {[]byte{1, 0, 8}, 2, []byte{1, 6, 8}, 1}, {[]byte{255, 6, 8}, 2, []byte{1, 6, 8}, 1},
		{[]byte{1, 2}, 1, []byte{1, 2}, 0}, {[]byte{0}, 1, []byte{0}, 0}, {[]byte{0, 0}, 2, []byte{0, 0}, 0}, {[]byte{0, 7}, 2, []byte{0, 0}, 1}, {[]byte{7, 0}, 2, []byte{0, 0}, 1},
		{[]byte{1, 14, 56, 64}, 3, []byte{1, 14, 56, 64}, 0}, {[]byte{1, 14, 56, 65}, 3, []byte{1, 14, 56, 64}, 1}, {[]byte{0, 14, 56, 64}, 3, []byte{1, 14, 56, 64}, 1},
		{known, 5, known, 0}, {[]byte{142, 164, 186, 114, 25, 5, 88, 103}, 5, known, 1}, {[]byte{0, 164, 186, 114, 25, 5, 88, 0}, 5, known, 2}, {[]byte{142, 164, 186, 25, 114, 5, 88, 102}, 5, known, 2},
	} {
		check(t, c.b, c.n, c.want, c.places, api.OK)
	}
}

func TestMendTooMany(t *testing.T) {
	for _, c := range []struct {
		b []byte
		n int
	}{
		// One check shows that something is spoilt, and no more.
		{[]byte{1}, 1}, {[]byte{1, 3}, 1}, {[]byte{2, 1}, 1},
		// Only noughts are fine, where there are no more bytes than checks.
		{[]byte{1, 1}, 2}, {[]byte{1, 0, 1}, 3}, {[]byte{0, 5, 6, 7, 0}, 5}, {[]byte{5, 6, 7, 0}, 4},
		{[]byte{0, 0, 8, 1}, 3}, {[]byte{142, 164, 186, 0, 0, 0, 88, 102}, 5}, {[]byte{0, 0, 0, 114, 25, 5, 88, 102}, 5},
	} {
		check(t, c.b, c.n, nil, 0, api.ErrMany)
	}
}

// TestMendAllOfTwo: two checks and no data, all bytes that there are.
func TestMendAllOfTwo(t *testing.T) {
	for d := range 1 << 16 {
		b := []byte{byte(d >> 8), byte(d)}
		if b[0] == 0 || b[1] == 0 {
			check(t, b, 2, []byte{0, 0}, unlike(b, []byte{0, 0}), api.OK)
		} else {
			check(t, b, 2, nil, 0, api.ErrMany)
		}
	}
}

// TestMendOfOneByte: spoilt in any number of places, all that may be fine behind one byte of data tells what is near.
func TestMendOfOneByte(t *testing.T) {
	r := rand.New(rand.NewPCG(120, 121))
	for n := 1; n <= 64; n++ {
		all := [][]byte{}
		for a := range 256 {
			all = append(all, put(t, []byte{byte(a)}, n))
		}
		for places := range n + 2 {
			for range 1 + 60/n {
				b := spoil(r, all[r.IntN(256)], places)
				want, wantPlaces, wantE := otherMend(b, n, all)
				check(t, b, n, want, wantPlaces, wantE)
			}
		}
	}
}

// TestMendOfOneByteAndTwoChecks: all checks there may be behind one byte.
func TestMendOfOneByteAndTwoChecks(t *testing.T) {
	all := [][]byte{}
	for a := range 256 {
		all = append(all, put(t, []byte{byte(a)}, 2))
	}
	for d := range 1 << 16 {
		b := []byte{77, byte(d >> 8), byte(d)}
		want, wantPlaces, wantE := otherMend(b, 2, all)
		check(t, b, 2, want, wantPlaces, wantE)
	}
}

// TestMendOfTwoBytes: spoilt in any number of places, all that may be fine behind two bytes of data tells what is near.
func TestMendOfTwoBytes(t *testing.T) {
	r := rand.New(rand.NewPCG(122, 123))
	for _, n := range []int{1, 2, 3, 4, 5, 6} {
		all := [][]byte{}
		for d := range 1 << 16 {
			all = append(all, put(t, []byte{byte(d >> 8), byte(d)}, n))
		}
		for places := range n + 3 {
			for range 60 {
				b := spoil(r, all[r.IntN(len(all))], places)
				want, wantPlaces, wantE := otherMend(b, n, all)
				check(t, b, n, want, wantPlaces, wantE)
			}
		}
	}
}

// TestMendOfNoughts: where there are as many bytes as checks, up to Most of them may be other ones than 0.
func TestMendOfNoughts(t *testing.T) {
	r := rand.New(rand.NewPCG(124, 125))
	for n := 1; n <= 64; n++ {
		none := make([]byte, n)
		for places := range n + 1 {
			b := spoil(r, none, places)
			if places <= n/2 {
				check(t, b, n, none, places, api.OK)
			} else {
				check(t, b, n, nil, 0, api.ErrMany)
			}
		}
	}
}

// TestMendBetweenTwo: from one list that is fine to another one, place by place, the nearer one is answered, if it is near enough.
func TestMendBetweenTwo(t *testing.T) {
	r := rand.New(rand.NewPCG(126, 127))
	for n := 1; n <= 64; n++ {
		// Behind one byte of data each, two of them differ in all n + 1 places.
		from, to := put(t, []byte{byte(r.IntN(128))}, n), put(t, []byte{byte(128 + r.IntN(128))}, n)
		b := slices.Clone(from)
		for m, k := range r.Perm(n + 1) {
			b[k] = to[k]
			switch gone, left := m+1, n-m; {
			case gone <= n/2:
				check(t, b, n, from, gone, api.OK)
			case left <= n/2:
				check(t, b, n, to, left, api.OK)
			default:
				check(t, b, n, nil, 0, api.ErrMany)
			}
		}
	}
}

// TestMendOneTooMany: by an odd number of checks, one place more than Most is near to nothing that is fine.
func TestMendOneTooMany(t *testing.T) {
	r := rand.New(rand.NewPCG(128, 129))
	for n := 1; n <= 63; n += 2 {
		for _, m := range []int{0, 1, 2, n, r.IntN(256 - n), 255 - n} {
			b := put(t, some(r, m), n)
			check(t, spoil(r, b, n/2+1), n, nil, 0, api.ErrMany)
		}
	}
}

// TestMendPlacesThatAreNot: what is fine but for places that were cut off ahead isn't mended, since its bytes don't have them.
func TestMendPlacesThatAreNot(t *testing.T) {
	r := rand.New(rand.NewPCG(130, 131))
	for n := 2; n <= 64; n++ {
		for _, m := range []int{1, 2, 50, 254 - n} {
			long := put(t, slices.Concat([]byte{byte(1 + r.IntN(255))}, make([]byte, 254-n-m), some(r, m)), n)
			check(t, long[255-n-m:], n, nil, 0, api.ErrMany)
			check(t, spoilAt(r, long, []int{0})[1:], n, nil, 0, api.ErrMany)
			check(t, long, n, long, 0, api.OK)
			check(t, slices.Concat([]byte{0}, long[1:]), n, long, 1, api.OK)
		}
	}
}

// TestMendBySigns: bytes that are made to have signs of many noughts, so that the way to the finder goes in unlike steps.
func TestMendBySigns(t *testing.T) {
	r := rand.New(rand.NewPCG(132, 133))
	for range 3000 {
		n := 1 + r.IntN(12)
		signs := make([]byte, n)
		for k := range signs {
			// Behind noughts, degrees fall by more than one at once.
			signs[k] = []byte{0, 0, 0, 1, 2, byte(r.Uint32())}[r.IntN(6)]
		}
		b := withSigns(t, signs, n+r.IntN(256-n))
		checkNear(t, b, n)
	}
}

// withSigns: so many bytes that have these signs, which are laid between the powers of 2 by Lagrange's way.
func withSigns(t *testing.T, signs []byte, length int) []byte {
	t.Helper()
	p := []byte{}
	for i, sign := range signs {
		base := []byte{1}
		for k := range signs {
			if k != i {
				base = poly.Mul(base, []byte{gf.Exp(k + 1), 1})
			}
		}
		inverse, e := gf.Inv(poly.Eval(base, gf.Exp(i+1)))
		if e != api.OK {
			t.Fatal(e)
		}
		p = poly.Add(p, poly.Times(base, gf.Mul(inverse, sign)))
	}
	b := make([]byte, length)
	for k, c := range p {
		b[length-1-k] = c
	}
	if got, e := solomon.Signs(b, len(signs)); e != api.OK || !bytes.Equal(got, signs) {
		t.Fatalf("the signs of %v are %v, %v, want %v", b, got, e, signs)
	}
	return b
}

// checkNear: what is answered of any bytes is fine, and near, and its places are counted; or there are too many.
func checkNear(t *testing.T, b []byte, n int) {
	t.Helper()
	got, places, e := Mend(b, n)
	switch {
	case e == api.ErrMany:
		if got != nil || places != 0 {
			t.Errorf("Mend(%v, %d) = %v, %d beside %v", b, n, got, places, e)
		}
	case e != api.OK || len(got) != len(b) || !solomon.Fine(got, n) || places != unlike(b, got) || places > n/2:
		t.Errorf("Mend(%v, %d) = %v, %d, %v", b, n, got, places, e)
	default:
		// Mended again, it is as it is.
		check(t, got, n, got, 0, api.OK)
	}
}

func TestMendOfWhatMayNotBe(t *testing.T) {
	for _, n := range notSoMany {
		// Which n may be is asked ahead of how many bytes there are.
		for _, m := range []int{0, 1, 100, 255, 256, 1000} {
			check(t, make([]byte, m), n, nil, 0, api.ErrArg)
			check(t, bytes.Repeat([]byte{7}, m), n, nil, 0, api.ErrArg)
		}
	}
	for n := 1; n <= 64; n++ {
		for _, m := range []int{0, n / 2, n - 1} {
			check(t, make([]byte, m), n, nil, 0, api.ErrShort)
			check(t, bytes.Repeat([]byte{7}, m), n, nil, 0, api.ErrShort)
		}
		for _, m := range []int{256, 257, 511, 70000} {
			check(t, make([]byte, m), n, nil, 0, api.ErrLong)
			check(t, bytes.Repeat([]byte{7}, m), n, nil, 0, api.ErrLong)
		}
	}
	check(t, nil, 1, nil, 0, api.ErrShort)
	check(t, nil, 0, nil, 0, api.ErrArg)
}

// P10.3

// TestMendAsItWas: each number of checks, lengths at their edges, and each number of places up to Most.
func TestMendAsItWas(t *testing.T) {
	r := rand.New(rand.NewPCG(134, 135))
	for n := 1; n <= 64; n++ {
		for _, m := range []int{0, 1, 2, n, r.IntN(256 - n), 255 - n} {
			b := put(t, some(r, m), n)
			for places := range n/2 + 1 {
				check(t, spoil(r, b, places), n, b, places, api.OK)
			}
		}
	}
}

// TestMendEachPlace: one place of 255 bytes, whichever, and any element there.
func TestMendEachPlace(t *testing.T) {
	r := rand.New(rand.NewPCG(136, 137))
	for _, n := range []int{2, 3, 10, 64} {
		b := put(t, some(r, 255-n), n)
		for k := range b {
			for _, a := range []byte{1, 2, 128, 255, byte(1 + r.IntN(255))} {
				spoilt := slices.Clone(b)
				spoilt[k] ^= a
				check(t, spoilt, n, b, 1, api.OK)
			}
		}
	}
	b := put(t, []byte("wristband"), 10)
	for k := range b {
		for a := 1; a < 256; a++ {
			spoilt := slices.Clone(b)
			spoilt[k] ^= byte(a)
			check(t, spoilt, 10, b, 1, api.OK)
		}
	}
}

// TestMendEachTwoPlaces: any two of them, which is all that there may be by four or five checks.
func TestMendEachTwoPlaces(t *testing.T) {
	r := rand.New(rand.NewPCG(138, 139))
	for _, n := range []int{4, 5} {
		b := put(t, some(r, 30), n)
		for i := range b {
			for k := range i {
				check(t, spoilAt(r, b, []int{i, k}), n, b, 2, api.OK)
				// Spoilt alike, both, so that the sum of both is nothing.
				spoilt := slices.Clone(b)
				spoilt[i] ^= 99
				spoilt[k] ^= 99
				check(t, spoilt, n, b, 2, api.OK)
			}
		}
	}
}

// TestMendRows: as many places as may be, side by side, at the beginning, at the end, and anywhere, also all noughts.
func TestMendRows(t *testing.T) {
	r := rand.New(rand.NewPCG(140, 141))
	for n := 2; n <= 64; n++ {
		for _, m := range []int{1, 20, 255 - n} {
			b := put(t, some(r, m), n)
			for _, first := range []int{0, r.IntN(m + n - n/2 + 1), m, m + n - n/2} {
				row := b[first:min(first+n/2, len(b))]
				noughts := slices.Concat(b[:first], make([]byte, len(row)), b[first+len(row):])
				check(t, noughts, n, b, unlike(noughts, b), api.OK)
				places := []int{}
				for k := range row {
					places = append(places, first+k)
				}
				check(t, spoilAt(r, b, places), n, b, len(row), api.OK)
			}
		}
	}
}

// TestMendIsFine: spoilt in any number of places, and by chance altogether, what is mended is fine, near, and as it is when mended again.
func TestMendIsFine(t *testing.T) {
	r := rand.New(rand.NewPCG(142, 143))
	for range 3000 {
		n := 1 + r.IntN(64)
		m := r.IntN(256 - n)
		b := put(t, some(r, m), n)
		checkNear(t, spoil(r, b, r.IntN(m+n+1)), n)
		checkNear(t, some(r, m+n), n)
		few := 1 + r.IntN(4)
		checkNear(t, some(r, few+r.IntN(256-few)), few)
	}
}

// TestMendByFewerChecks: what was put by ten checks is mended by fewer, too, as far as they go.
func TestMendByFewerChecks(t *testing.T) {
	r := rand.New(rand.NewPCG(144, 145))
	b := put(t, []byte("wristband"), 10)
	for n := 1; n <= 10; n++ {
		check(t, spoil(r, b, n/2), n, b, n/2, api.OK)
	}
}

// The rules that hold everywhere.

func TestAnswersAreNewMemory(t *testing.T) {
	r := rand.New(rand.NewPCG(146, 147))
	fine := put(t, []byte("wristband"), 10)
	for _, c := range []struct {
		b []byte
		n int
	}{{nil, 1}, {[]byte{0}, 1}, {[]byte{1}, 1}, {fine, 10}, {spoil(r, fine, 3), 10}, {spoil(r, fine, 5), 10}, {spoil(r, fine, 19), 10}, {fine, 0}, {fine, 64}, {make([]byte, 255), 64}, {make([]byte, 300), 64}} {
		rest := bytes.Repeat([]byte{111}, 70)
		room := slices.Concat(c.b, rest)
		b := room[:len(c.b)]
		mended, _, _ := Mend(b, c.n)
		again, _, _ := Mend(b, c.n)
		want := slices.Clone(again)
		// All the room of an answer is written over: nothing else may be seen to change by it.
		mended = mended[:cap(mended)]
		for k := range mended {
			mended[k] ^= 255
		}
		if !bytes.Equal(room, slices.Concat(c.b, rest)) {
			t.Errorf("%v came back as %v, or shares memory with an answer", c.b, room)
		}
		if !bytes.Equal(again, want) {
			t.Errorf("two answers of %v share memory", c.b)
		}
	}
}
