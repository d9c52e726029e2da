package sha

import (
	"bytes"
	"crypto/sha256"
	"encoding"
	"encoding/binary"
	"encoding/hex"
	"math"
	"math/rand/v2"
	"slices"
	"strings"
	"testing"

	"wristband/api"
)

// randomText of n bytes, the same one for the same n.
func randomText(n int) []byte {
	r := rand.New(rand.NewPCG(5, uint64(n)))
	b := make([]byte, n)
	for i := range b {
		b[i] = byte(r.Uint32())
	}
	return b
}

func randomState(r *rand.Rand) [8]uint32 {
	var s [8]uint32
	for i := range s {
		s[i] = r.Uint32()
	}
	return s
}

// unhex a text, blanks between whose words don't count.
func unhex(t *testing.T, s string) []byte {
	t.Helper()
	b, err := hex.DecodeString(strings.ReplaceAll(s, " ", ""))
	if err != nil {
		t.Fatal(err)
	}
	return b
}

// otherBlock works out the state behind a block by the library's hash, which is set to any state by its saved form:
// four bytes of its own, the state, room for a block, and how many bytes came.
func otherBlock(t *testing.T, state [8]uint32, block []byte) [8]uint32 {
	t.Helper()
	h := sha256.New()
	saved, err := h.(encoding.BinaryMarshaler).MarshalBinary()
	if err != nil {
		t.Fatal(err)
	}
	for i, w := range state {
		binary.BigEndian.PutUint32(saved[4+4*i:], w)
	}
	if err := h.(encoding.BinaryUnmarshaler).UnmarshalBinary(saved); err != nil {
		t.Fatal(err)
	}
	h.Write(block)
	saved, err = h.(encoding.BinaryMarshaler).MarshalBinary()
	if err != nil {
		t.Fatal(err)
	}
	for i := range state {
		state[i] = binary.BigEndian.Uint32(saved[4+4*i:])
	}
	return state
}

// otherEnd fills a rest up, byte for byte, and takes it block by block through the library's hash.
func otherEnd(t *testing.T, h api.Hash) []byte {
	t.Helper()
	text := append(slices.Clone(h.Rest), 128)
	for len(text)%64 != 56 {
		text = append(text, 0)
	}
	text = binary.BigEndian.AppendUint64(text, h.Many*8)
	state := h.State
	for block := range slices.Chunk(text, 64) {
		state = otherBlock(t, state, block)
	}
	var sum []byte
	for _, w := range state {
		sum = binary.BigEndian.AppendUint32(sum, w)
	}
	return sum
}

func sameHash(a, b api.Hash) bool {
	return a.State == b.State && bytes.Equal(a.Rest, b.Rest) && a.Many == b.Many
}

func cloneHash(h api.Hash) api.Hash {
	h.Rest = slices.Clone(h.Rest)
	return h
}

// P2.1

func TestBlockExample(t *testing.T) {
	block := make([]byte, 64)
	copy(block, "abc\x80")
	block[63] = 24
	want := [8]uint32{0xba7816bf, 0x8f01cfea, 0x414140de, 0x5dae2223, 0xb00361a3, 0x96177a9c, 0xb410ff61, 0xf20015ad}
	if got, e := Block(Start().State, block); got != want || e != api.OK {
		t.Errorf("Block of abc filled up = %08x, %v, want %08x, ok", got, e, want)
	}
}

func TestBlockOfAnyState(t *testing.T) {
	r := rand.New(rand.NewPCG(6, 7))
	check := func(state [8]uint32, block []byte) {
		t.Helper()
		want := otherBlock(t, state, block)
		if got, e := Block(state, block); got != want || e != api.OK {
			t.Errorf("Block(%08x, %x) = %08x, %v, want %08x, ok", state, block, got, e, want)
		}
	}
	ones := [8]uint32{}
	for i := range ones {
		ones[i] = math.MaxUint32
	}
	for _, state := range [][8]uint32{{}, ones, Start().State} {
		check(state, make([]byte, 64))
		check(state, bytes.Repeat([]byte{255}, 64))
	}
	for n := range 500 {
		check(randomState(r), randomText(64 + n)[n:])
	}
}

func TestBlockOfAnotherLength(t *testing.T) {
	for _, n := range []int{0, 1, 4, 32, 56, 60, 63, 65, 68, 127, 128, 192} {
		if got, e := Block(Start().State, randomText(n)); got != ([8]uint32{}) || e != api.ErrArg {
			t.Errorf("Block of %d bytes = %08x, %v, want zeros, argument", n, got, e)
		}
	}
	if got, e := Block(Start().State, nil); got != ([8]uint32{}) || e != api.ErrArg {
		t.Errorf("Block of nil = %08x, %v, want zeros, argument", got, e)
	}
}

func TestSumExamples(t *testing.T) {
	for _, c := range []struct{ text, want string }{
		{"", "e3b0c442 98fc1c14 9afbf4c8 996fb924 27ae41e4 649b934c a495991b 7852b855"},
		{"abc", "ba7816bf 8f01cfea 414140de 5dae2223 b00361a3 96177a9c b410ff61 f20015ad"},
		{"abcdbcdecdefdefgefghfghighijhijkijkljklmklmnlmnomnopnopq",
			"248d6a61 d20638b8 e5c02693 0c3e6039 a33ce459 64ff2167 f6ecedd4 19db06c1"},
		{strings.Repeat("a", 1000000), "cdc76e5c 9914fb92 81a1c7e2 84d73e67 f1809a48 a497200e 046d39cc c7112cd0"},
	} {
		if got, want := Sum([]byte(c.text)), unhex(t, c.want); !bytes.Equal(got, want) {
			t.Errorf("Sum of %d bytes = %x, want %x", len(c.text), got, want)
		}
	}
	if got := Sum(nil); !bytes.Equal(got, Sum([]byte{})) {
		t.Errorf("Sum(nil) = %x, other than of no bytes", got)
	}
}

func TestSumOfEachLength(t *testing.T) {
	for n := range 520 {
		for _, b := range [][]byte{randomText(n), make([]byte, n), bytes.Repeat([]byte{128}, n)} {
			want := sha256.Sum256(b)
			if got := Sum(b); !bytes.Equal(got, want[:]) {
				t.Errorf("Sum of %d bytes %x = %x, want %x", n, b, got, want)
			}
		}
	}
}

// P2.2

func TestStart(t *testing.T) {
	want := [8]uint32{0x6a09e667, 0xbb67ae85, 0x3c6ef372, 0xa54ff53a, 0x510e527f, 0x9b05688c, 0x1f83d9ab, 0x5be0cd19}
	if h := Start(); h.State != want || len(h.Rest) != 0 || h.Many != 0 {
		t.Errorf("Start() = %+v", h)
	}
}

func TestMoreKeepsStateRestAndMany(t *testing.T) {
	r := rand.New(rand.NewPCG(8, 9))
	for _, rest := range []int{0, 1, 31, 55, 56, 62, 63} {
		for _, n := range []int{0, 1, 2, 8, 9, 33, 63, 64, 65, 127, 128, 129, 192, 200} {
			h := api.Hash{State: randomState(r), Rest: randomText(rest), Many: r.Uint64()}
			b := randomText(n)
			text := slices.Concat(h.Rest, b)
			want := api.Hash{State: h.State, Many: h.Many + uint64(n)}
			for ; len(text) >= 64; text = text[64:] {
				want.State = otherBlock(t, want.State, text[:64])
			}
			want.Rest = text
			if got, e := More(h, b); !sameHash(got, want) || e != api.OK {
				t.Errorf("More of rest %d and %d bytes = %+v, %v, want %+v, ok", rest, n, got, e, want)
			}
		}
	}
}

func TestMoreOfNothing(t *testing.T) {
	for _, b := range [][]byte{nil, {}} {
		h := api.Hash{State: [8]uint32{1, 2, 3, 4, 5, 6, 7, 8}, Rest: []byte("rest"), Many: 9}
		if got, e := More(h, b); !sameHash(got, h) || e != api.OK {
			t.Errorf("More of nothing = %+v, %v, want %+v, ok", got, e, h)
		}
	}
}

func TestManyTurnsRound(t *testing.T) {
	for _, c := range []struct {
		many uint64
		n    int
		want uint64
	}{
		{math.MaxUint64, 0, math.MaxUint64},
		{math.MaxUint64, 1, 0},
		{math.MaxUint64, 100, 99},
		{math.MaxUint64 - 63, 64, 0},
		{math.MaxInt64, 1, 1 << 63},
	} {
		h := api.Hash{State: Start().State, Many: c.many}
		got, e := More(h, randomText(c.n))
		if got.Many != c.want || e != api.OK {
			t.Errorf("%d bytes more than %d are %d, %v, want %d, ok", c.n, c.many, got.Many, e, c.want)
		}
	}
}

func TestEndFillsUp(t *testing.T) {
	r := rand.New(rand.NewPCG(10, 11))
	for rest := range 64 {
		for _, many := range []uint64{0, uint64(rest), 7, 1 << 32, 1<<61 - 1, 1 << 61, 1<<61 + 3, 1 << 63, math.MaxUint64, r.Uint64()} {
			h := api.Hash{State: randomState(r), Rest: randomText(rest), Many: many}
			want := otherEnd(t, h)
			if got, e := End(h); !bytes.Equal(got, want) || e != api.OK {
				t.Errorf("End of rest %d, many %d = %x, %v, want %x, ok", rest, many, got, e, want)
			}
		}
	}
}

func TestEndCountsManyNotRest(t *testing.T) {
	h := api.Hash{State: Start().State, Rest: []byte("abc"), Many: 3}
	got, e := End(h)
	if !bytes.Equal(got, Sum([]byte("abc"))) || e != api.OK {
		t.Errorf("End of abc = %x, %v", got, e)
	}
	for _, many := range []uint64{0, 2, 4, 67, 1 << 60} {
		h.Many = many
		if other, e := End(h); bytes.Equal(other, got) || e != api.OK {
			t.Errorf("End of abc with Many %d = %x, %v, the same as with 3", many, other, e)
		}
	}
	// 2^61 bytes are 2^64 bits, which are none.
	h.Many = 3 + 1<<61
	if other, e := End(h); !bytes.Equal(other, got) || e != api.OK {
		t.Errorf("End of abc with Many %d = %x, %v, want %x, ok", h.Many, other, e, got)
	}
}

func TestTooLongARest(t *testing.T) {
	for _, rest := range []int{64, 65, 119, 120, 127, 128, 1000} {
		h := api.Hash{State: [8]uint32{1, 2, 3, 4, 5, 6, 7, 8}, Rest: randomText(rest), Many: 77}
		for _, n := range []int{0, 1, 64, 100} {
			if got, e := More(h, randomText(n)); !sameHash(got, h) || e != api.ErrArg {
				t.Errorf("More of rest %d and %d bytes = %+v, %v, want it as it is, argument", rest, n, got, e)
			}
		}
		if got, e := End(h); len(got) != 0 || e != api.ErrArg {
			t.Errorf("End of rest %d = %x, %v, want none, argument", rest, got, e)
		}
	}
}

// P2.3

// inParts is the hash of a text that comes in parts.
func inParts(t *testing.T, parts ...[]byte) []byte {
	t.Helper()
	h := Start()
	many := 0
	for _, p := range parts {
		var e api.Errno
		h, e = More(h, p)
		many += len(p)
		if e != api.OK || len(h.Rest) != many%64 || h.Many != uint64(many) {
			t.Fatalf("behind %d bytes: rest %d, many %d, %v", many, len(h.Rest), h.Many, e)
		}
	}
	sum, e := End(h)
	if e != api.OK {
		t.Fatalf("End behind %d bytes: %v", many, e)
	}
	return sum
}

func TestTwoPartsHaveTheSameHash(t *testing.T) {
	for _, n := range []int{0, 1, 55, 56, 63, 64, 65, 119, 120, 127, 128, 129, 200} {
		text := randomText(n)
		want := Sum(text)
		for cut := range n + 1 {
			if got := inParts(t, text[:cut], text[cut:]); !bytes.Equal(got, want) {
				t.Errorf("%d bytes cut at %d: %x, want %x", n, cut, got, want)
			}
		}
	}
}

func TestManyPartsHaveTheSameHash(t *testing.T) {
	text := randomText(1000)
	want := Sum(text)
	for size := 1; size <= 130; size++ {
		if got := inParts(t, slices.Collect(slices.Chunk(text, size))...); !bytes.Equal(got, want) {
			t.Errorf("parts of %d bytes: %x, want %x", size, got, want)
		}
	}
	r := rand.New(rand.NewPCG(12, 13))
	for range 100 {
		var parts [][]byte
		for left := text; len(left) > 0; {
			n := min(r.IntN(150), len(left))
			parts, left = append(parts, left[:n]), left[n:]
		}
		if got := inParts(t, parts...); !bytes.Equal(got, want) {
			t.Errorf("%d parts: %x, want %x", len(parts), got, want)
		}
	}
}

func TestNoPartsAreTheEmptyText(t *testing.T) {
	if got := inParts(t); !bytes.Equal(got, Sum(nil)) {
		t.Errorf("no parts: %x, want %x", got, Sum(nil))
	}
}

// A hash may be gone on with in two ways, neither of which shows in the other.
func TestAHashGoesOnTwice(t *testing.T) {
	h, _ := More(Start(), []byte("the same beginning"))
	one, _ := More(h, []byte(", one end"))
	two, _ := More(h, []byte(", another"))
	for _, c := range []struct {
		h    api.Hash
		text string
	}{{one, "the same beginning, one end"}, {two, "the same beginning, another"}, {h, "the same beginning"}} {
		if got, e := End(c.h); !bytes.Equal(got, Sum([]byte(c.text))) || e != api.OK {
			t.Errorf("End of %q = %x, %v", c.text, got, e)
		}
	}
}

// The rules that hold everywhere: nothing handed in is changed or kept, its spare room neither, and answers share no
// memory.

func TestArgumentsStayAsTheyAre(t *testing.T) {
	for _, n := range []int{0, 3, 55, 56, 63, 64, 65} {
		restRoom, textRoom := randomText(300), randomText(400)
		h := api.Hash{State: Start().State, Rest: restRoom[:n], Many: uint64(n)}
		was, hWas, textWas := slices.Clone(restRoom), cloneHash(h), slices.Clone(textRoom)
		for _, m := range []int{0, 1, 64, 150} {
			if got, _ := More(h, textRoom[:m]); cap(got.Rest) > 0 {
				clear(got.Rest[:cap(got.Rest)])
			}
			Sum(textRoom[:m])
			Block(h.State, textRoom[:m])
		}
		End(h)
		if !bytes.Equal(restRoom, was) || !bytes.Equal(textRoom, textWas) || !sameHash(h, hWas) {
			t.Errorf("with a rest of %d, something handed in was changed", n)
		}
	}
}

func TestNothingHandedInIsKept(t *testing.T) {
	for _, n := range []int{0, 3, 63, 64} {
		rest, text := randomText(n), []byte("some more bytes")
		h := api.Hash{State: Start().State, Rest: rest, Many: uint64(n)}
		got, _ := More(h, text)
		want := cloneHash(got)
		clear(rest)
		clear(text)
		if !sameHash(got, want) {
			t.Errorf("with a rest of %d, what was handed in is kept", n)
		}
	}
}

func TestAnswersAreNewMemory(t *testing.T) {
	text := []byte("some text")
	want := sha256.Sum256(text)
	for range 2 {
		h, _ := More(Start(), text)
		end, e := End(h)
		sum := Sum(text)
		if !bytes.Equal(end, want[:]) || !bytes.Equal(sum, want[:]) || e != api.OK {
			t.Errorf("a changed answer showed in the next one: %x, %x, want %x", end, sum, want)
		}
		clear(end)
		clear(sum)
		clear(h.Rest)
	}
}
