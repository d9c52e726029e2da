package trunc

import (
	"bytes"
	"encoding/hex"
	"fmt"
	"math"
	"math/rand/v2"
	"slices"
	"testing"

	"wristband/api"
)

// randomText of n bytes, the same one for the same n.
func randomText(n int) []byte {
	r := rand.New(rand.NewPCG(14, uint64(n)))
	b := make([]byte, n)
	for i := range b {
		b[i] = byte(r.Uint32())
	}
	return b
}

// otherCode is the code as RFC 4226 writes it out, byte by byte.
func otherCode(tag []byte) uint32 {
	at := int(tag[len(tag)-1] & 0xf)
	return uint32(tag[at]&0x7f)<<24 | uint32(tag[at+1])<<16 | uint32(tag[at+2])<<8 | uint32(tag[at+3])
}

// otherDigits are the digits as a number that is filled up with noughts.
func otherDigits(code uint32, n int) string {
	power := uint64(1)
	for range n {
		power *= 10
	}
	return fmt.Sprintf("%0*d", n, uint64(code)%power)
}

// otherUnlike asks at each place of either list whether both have the same byte there.
func otherUnlike(a, b []byte) int {
	n := 0
	for i := range max(len(a), len(b)) {
		if i >= len(a) || i >= len(b) || a[i] != b[i] {
			n++
		}
	}
	return n
}

// P4.1

// TestExamples: RFC 4226's own, the one of its section 5.4 (which is the document's) first, then those of its appendix D.
func TestExamples(t *testing.T) {
	for _, c := range []struct {
		tag    string
		code   uint32
		digits string
	}{
		{"1f8698690e02ca16618550ef7f19da8e945b555a", 1357872921, "872921"},
		{"cc93cf18508d94934c64b65d8ba7667fb7cde4b0", 1284755224, "755224"},
		{"75a48a19d4cbe100644e8ac1397eea747a2d33ab", 1094287082, "287082"},
		{"0bacb7fa082fef30782211938bc1c5e70416ff44", 137359152, "359152"},
		{"66c28227d03a2d5529262ff016a1e6ef76557ece", 1726969429, "969429"},
		{"a904c900a64b35909874b33e61c5938a8e15ed1c", 1640338314, "338314"},
		{"a37e783d7b7233c083d4f62926c7a25f238d0316", 868254676, "254676"},
		{"bc9cd28561042c83f219324d3c607256c03272ae", 1918287922, "287922"},
		{"a4fb960c0bc06e1eabb804e5b397cdc4b45596fa", 82162583, "162583"},
		{"1b3c89f65e6c9e883012052823443f048b4332db", 673399871, "399871"},
		{"1637409809a679dc698207310c8c7fc07290d9e5", 645520489, "520489"},
	} {
		tag, err := hex.DecodeString(c.tag)
		if err != nil {
			t.Fatal(err)
		}
		code, e := Code(tag)
		if code != c.code || e != api.OK {
			t.Errorf("Code(%s) = %d, %v, want %d, ok", c.tag, code, e, c.code)
		}
		if got, e := Digits(c.code, 6); got != c.digits || e != api.OK {
			t.Errorf("Digits(%d, 6) = %q, %v, want %q, ok", c.code, got, e, c.digits)
		}
	}
}

// TestCodeBeginsAtEachPlace goes through each last byte, so also the place at whose end the last byte itself stands.
func TestCodeBeginsAtEachPlace(t *testing.T) {
	for _, n := range []int{19, 20, 21, 31, 32, 33, 64, 257, 300} {
		for last := range 256 {
			tag := randomText(n)
			tag[n-1] = byte(last)
			want := otherCode(tag)
			if got, e := Code(tag); got != want || e != api.OK {
				t.Errorf("Code of %d bytes, the last %d = %d, %v, want %d, ok", n, last, got, e, want)
			}
		}
	}
}

func TestCodeByHand(t *testing.T) {
	rising := func(n int, last byte) []byte {
		tag := make([]byte, n)
		for i := range tag {
			tag[i] = byte(i + 1)
		}
		tag[n-1] = last
		return tag
	}
	for _, c := range []struct {
		tag  []byte
		want uint32
	}{
		{rising(19, 0), 0x01020304},
		{rising(19, 16), 0x01020304},
		{rising(19, 240), 0x01020304},
		{rising(19, 1), 0x02030405},
		{rising(19, 14), 0x0f101112},
		{rising(19, 15), 0x1011120f},
		{rising(19, 255), 0x101112ff},
		{rising(20, 15), 0x10111213},
		{rising(32, 15), 0x10111213},
		{make([]byte, 19), 0},
		{bytes.Repeat([]byte{255}, 19), math.MaxInt32},
		{bytes.Repeat([]byte{128}, 19), 0x00808080},
	} {
		if got, e := Code(c.tag); got != c.want || e != api.OK {
			t.Errorf("Code(%v) = %#x, %v, want %#x, ok", c.tag, got, e, c.want)
		}
	}
}

func TestCodeOfAShortTag(t *testing.T) {
	for n := range 19 {
		for _, fill := range []byte{0, 1, 15, 255} {
			if got, e := Code(bytes.Repeat([]byte{fill}, n)); got != 0 || e != api.ErrShort {
				t.Errorf("Code of %d bytes %d = %d, %v, want 0, short", n, fill, got, e)
			}
		}
	}
	if got, e := Code(nil); got != 0 || e != api.ErrShort {
		t.Errorf("Code(nil) = %d, %v, want 0, short", got, e)
	}
	// What is behind a short tag, in its spare room, is none of it.
	if got, e := Code(randomText(40)[:18]); got != 0 || e != api.ErrShort {
		t.Errorf("Code of 18 bytes with room = %d, %v, want 0, short", got, e)
	}
}

func TestDigitsExamples(t *testing.T) {
	for _, c := range []struct {
		code uint32
		n    int
		want string
	}{
		{1357872921, 1, "1"},
		{1357872921, 6, "872921"},
		{1357872921, 7, "7872921"},
		{1357872921, 8, "57872921"},
		{1357872921, 9, "357872921"},
		{0, 1, "0"},
		{0, 9, "000000000"},
		{7, 1, "7"},
		{7, 2, "07"},
		{7, 9, "000000007"},
		{10, 1, "0"},
		{100000, 5, "00000"},
		{100000, 6, "100000"},
		{1000042, 6, "000042"},
		{999999999, 9, "999999999"},
		{1000000000, 9, "000000000"},
		{math.MaxInt32, 9, "147483647"},
		{math.MaxInt32 + 1, 9, "147483648"},
		{math.MaxUint32, 9, "294967295"},
		{math.MaxUint32, 1, "5"},
	} {
		if got, e := Digits(c.code, c.n); got != c.want || e != api.OK {
			t.Errorf("Digits(%d, %d) = %q, %v, want %q, ok", c.code, c.n, got, e, c.want)
		}
	}
}

func TestDigitsOfEachCount(t *testing.T) {
	r := rand.New(rand.NewPCG(15, 16))
	for range 500 {
		code := r.Uint32() >> r.IntN(32)
		for n := 1; n <= 9; n++ {
			want := otherDigits(code, n)
			if got, e := Digits(code, n); got != want || e != api.OK {
				t.Errorf("Digits(%d, %d) = %q, %v, want %q, ok", code, n, got, e, want)
			}
		}
	}
}

func TestDigitsOfAnotherCount(t *testing.T) {
	for _, n := range []int{0, -1, -2, -9, 10, 11, 100, 1 << 31, 1<<32 + 6, math.MaxInt, math.MinInt} {
		for _, code := range []uint32{0, 1, 1357872921, math.MaxUint32} {
			if got, e := Digits(code, n); got != "" || e != api.ErrArg {
				t.Errorf("Digits(%d, %d) = %q, %v, want none, argument", code, n, got, e)
			}
		}
	}
}

// P4.2

func TestUnlikeExamples(t *testing.T) {
	for _, c := range []struct {
		a, b string
		want int
	}{
		{"", "", 0},
		{"a", "a", 0},
		{"a", "b", 1},
		{"a", "", 1},
		{"abc", "", 3},
		{"abc", "ab", 1},
		{"abc", "a", 2},
		{"abc", "bc", 3},
		{"abc", "xbc", 1},
		{"abc", "xbcd", 2},
		{"abc", "xyz", 3},
		{"abcd", "xyz", 4},
		{"\x00", "", 1},
		{"\x00\x00", "\x00", 1},
		{"\x00", "\xff", 1},
		{"\x01", "\x00", 1},
		{"\x80", "\x00", 1},
	} {
		for _, p := range [][2]string{{c.a, c.b}, {c.b, c.a}} {
			a, b := []byte(p[0]), []byte(p[1])
			if got := Unlike(a, b); got != c.want {
				t.Errorf("Unlike(%q, %q) = %d, want %d", a, b, got, c.want)
			}
			if got := Same(a, b); got != (c.want == 0) {
				t.Errorf("Same(%q, %q) = %v", a, b, got)
			}
		}
	}
}

func TestUnlikeOfNothing(t *testing.T) {
	for _, a := range [][]byte{nil, {}} {
		for _, b := range [][]byte{nil, {}} {
			if Unlike(a, b) != 0 || !Same(a, b) {
				t.Errorf("%#v and %#v are unlike at %d places", a, b, Unlike(a, b))
			}
		}
		if got := Unlike(a, make([]byte, 32)); got != 32 || Same(a, make([]byte, 32)) {
			t.Errorf("%#v and 32 bytes 0 are unlike at %d places", a, got)
		}
	}
}

// TestUnlikeBytes holds each byte against each other one.
func TestUnlikeBytes(t *testing.T) {
	for x := range 256 {
		for y := range 256 {
			a, b := []byte{7, byte(x), 9}, []byte{7, byte(y), 9}
			want := 1
			if x == y {
				want = 0
			}
			if got := Unlike(a, b); got != want || Same(a, b) != (want == 0) {
				t.Errorf("Unlike(%v, %v) = %d, want %d; Same: %v", a, b, got, want, Same(a, b))
			}
		}
	}
}

// TestAllPlacesAreLookedAt: what was found at one place hides none of the others.
func TestAllPlacesAreLookedAt(t *testing.T) {
	r := rand.New(rand.NewPCG(17, 18))
	for range 2000 {
		a, b := randomText(r.IntN(70)), randomText(r.IntN(70))
		copy(b, a)
		for range r.IntN(20) {
			if len(b) > 0 {
				b[r.IntN(len(b))] = byte(r.Uint32())
			}
		}
		want := otherUnlike(a, b)
		if got := Unlike(a, b); got != want {
			t.Errorf("Unlike(%x, %x) = %d, want %d", a, b, got, want)
		}
		if got := Same(a, b); got != (want == 0) {
			t.Errorf("Same(%x, %x) = %v, want %v", a, b, got, want == 0)
		}
	}
	all := bytes.Repeat([]byte{1}, 1000)
	if got := Unlike(all, make([]byte, 1000)); got != 1000 {
		t.Errorf("a thousand unlike places are %d", got)
	}
}

// P4.3

func TestSameJustIfAllBytesAre(t *testing.T) {
	for _, n := range []int{1, 8, 19, 20, 32, 33, 256, 300} {
		tag := randomText(n)
		if copied := slices.Clone(tag); !Same(tag, copied) || !Same(tag, tag) {
			t.Errorf("a tag of %d bytes isn't the same as its copy", n)
		}
		for i := range tag {
			for bit := range 8 {
				other := slices.Clone(tag)
				other[i] ^= 1 << bit
				if Same(tag, other) || Same(other, tag) {
					t.Errorf("a tag of %d bytes is the same with bit %d of byte %d turned", n, bit, i)
				}
			}
		}
		for _, other := range [][]byte{
			tag[:n-1],
			tag[1:],
			append(slices.Clone(tag), 0),
			append(slices.Clone(tag), tag...),
			append([]byte{0}, tag...),
			nil,
		} {
			if Same(tag, other) || Same(other, tag) {
				t.Errorf("tags of %d and %d bytes are the same", n, len(other))
			}
		}
	}
}

// TestSameOfManyUnlikePlaces: a count of them that is 0 in fewer bits is none all the same.
func TestSameOfManyUnlikePlaces(t *testing.T) {
	for _, n := range []int{255, 256, 257, 512, 1 << 16, 1<<16 + 1} {
		a, b := make([]byte, n), bytes.Repeat([]byte{255}, n)
		if Same(a, b) || Same(a, nil) || Unlike(a, b) != n || Unlike(nil, b) != n {
			t.Errorf("tags that are unlike at %d places are the same", n)
		}
	}
}

func TestSameAsEqualBytes(t *testing.T) {
	texts := [][]byte{nil, {}}
	for x := range 3 {
		texts = append(texts, []byte{byte(x)})
		for y := range 3 {
			texts = append(texts, []byte{byte(x), byte(y)})
			for z := range 3 {
				texts = append(texts, []byte{byte(x), byte(y), byte(z)})
			}
		}
	}
	for _, a := range texts {
		for _, b := range texts {
			if got, want := Same(a, b), bytes.Equal(a, b); got != want {
				t.Errorf("Same(%v, %v) = %v, want %v", a, b, got, want)
			}
		}
	}
}

// The rules that hold everywhere: nothing handed in is changed, its spare room neither.

func TestArgumentsStayAsTheyAre(t *testing.T) {
	one, two := randomText(100), randomText(90)
	oneWas, twoWas := slices.Clone(one), slices.Clone(two)
	for n := range 60 {
		Code(one[:n])
		Unlike(one[:n], two[:60-n])
		Same(one[:n], two[:n])
		Same(one[:n], one[:n])
	}
	if !bytes.Equal(one, oneWas) || !bytes.Equal(two, twoWas) {
		t.Error("something handed in was changed")
	}
}
