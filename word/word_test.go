package word

import (
	"bytes"
	"math"
	"math/rand/v2"
	"slices"
	"testing"

	"wristband/api"
)

// numbers at the edges of each count of bytes, and some between them.
func numbers() []uint64 {
	l := []uint64{0, 1, 2, 127, 128, 258, 1 << 31, 1<<32 - 1, 0x0102030405060708, math.MaxUint64}
	for k := 8; k < 64; k += 8 {
		l = append(l, 1<<k-1, 1<<k, 1<<k+1)
	}
	r := rand.New(rand.NewPCG(1, 2))
	for range 2000 {
		l = append(l, r.Uint64()>>r.IntN(64))
	}
	return l
}

// randomBytes of each length below 40, from a fixed seed.
func randomBytes() [][]byte {
	r := rand.New(rand.NewPCG(3, 4))
	l := make([][]byte, 40)
	for n := range l {
		l[n] = make([]byte, n)
		for i := range l[n] {
			l[n][i] = byte(r.Uint32())
		}
	}
	return l
}

// rotBit says bit by bit what a turn is, apart from any shift of whole words.
func rotBit(x uint32, n int) uint32 {
	down := (n%32 + 32) % 32
	y := uint32(0)
	for i := range 32 {
		if x&(1<<i) != 0 {
			y |= 1 << ((i - down + 32) % 32)
		}
	}
	return y
}

// P1.1

func TestRotExamples(t *testing.T) {
	for _, c := range []struct {
		x    uint32
		n    int
		want uint32
	}{
		{0, 5, 0},
		{1, 0, 1},
		{1, 1, 0x80000000},
		{0x80000001, 1, 0xc0000000},
		{0x12345678, 8, 0x78123456},
		{0x12345678, 31, 0x2468acf0},
		{0x12345678, 32, 0x12345678},
		{0x12345678, 40, 0x78123456},
		{0x12345678, -8, 0x34567812},
		{0x12345678, -32, 0x12345678},
		{0x12345678, -40, 0x34567812},
		{0x12345678, math.MaxInt, 0x2468acf0},
		{0x12345678, math.MinInt, 0x12345678},
		{0x12345678, math.MinInt + 1, 0x091a2b3c},
	} {
		if got := Rot(c.x, c.n); got != c.want {
			t.Errorf("Rot(%#x, %d) = %#x, want %#x", c.x, c.n, got, c.want)
		}
	}
}

func TestRotTurnsEachBit(t *testing.T) {
	for _, x := range []uint32{0, 1, 0x80000000, 0xdeadbeef, 0x01020304, math.MaxUint32} {
		for n := -100; n <= 100; n++ {
			if got, want := Rot(x, n), rotBit(x, n); got != want {
				t.Errorf("Rot(%#x, %d) = %#x, want %#x", x, n, got, want)
			}
		}
	}
}

func TestWords(t *testing.T) {
	for _, c := range []struct {
		b    []byte
		want []uint32
	}{
		{nil, nil},
		{[]byte{}, nil},
		{[]byte{1}, nil},
		{[]byte{1, 2}, nil},
		{[]byte{1, 2, 3}, nil},
		{[]byte{1, 2, 3, 4}, []uint32{0x01020304}},
		{[]byte{0, 0, 0, 1, 9}, []uint32{1}},
		{[]byte{255, 254, 253, 252, 9, 9, 9}, []uint32{0xfffefdfc}},
		{[]byte{0, 0, 0, 0, 128, 0, 0, 0}, []uint32{0, 0x80000000}},
	} {
		if got := Words(c.b); !slices.Equal(got, c.want) {
			t.Errorf("Words(%v) = %#x, want %#x", c.b, got, c.want)
		}
	}
}

func TestBytes(t *testing.T) {
	for _, c := range []struct {
		l    []uint32
		want []byte
	}{
		{nil, nil},
		{[]uint32{}, nil},
		{[]uint32{0}, []byte{0, 0, 0, 0}},
		{[]uint32{1}, []byte{0, 0, 0, 1}},
		{[]uint32{0xfffefdfc, 0x01020304}, []byte{255, 254, 253, 252, 1, 2, 3, 4}},
	} {
		if got := Bytes(c.l); !bytes.Equal(got, c.want) {
			t.Errorf("Bytes(%#x) = %v, want %v", c.l, got, c.want)
		}
	}
}

// P1.2

func TestPut(t *testing.T) {
	for v, want := range map[uint64][]byte{
		0:                  {0, 0, 0, 0, 0, 0, 0, 0},
		1:                  {0, 0, 0, 0, 0, 0, 0, 1},
		258:                {0, 0, 0, 0, 0, 0, 1, 2},
		0x0102030405060708: {1, 2, 3, 4, 5, 6, 7, 8},
		1 << 63:            {128, 0, 0, 0, 0, 0, 0, 0},
		math.MaxUint64:     {255, 255, 255, 255, 255, 255, 255, 255},
	} {
		if got := Put(v); !bytes.Equal(got, want) {
			t.Errorf("Put(%d) = %v, want %v", v, got, want)
		}
	}
}

func TestGet(t *testing.T) {
	for _, c := range []struct {
		b    []byte
		want uint64
	}{
		{[]byte{0, 0, 0, 0, 0, 0, 0, 0}, 0},
		{[]byte{0, 0, 0, 0, 0, 0, 1, 2}, 258},
		{[]byte{1, 2, 3, 4, 5, 6, 7, 8}, 0x0102030405060708},
		{[]byte{255, 255, 255, 255, 255, 255, 255, 255}, math.MaxUint64},
	} {
		if got, e := Get(c.b); got != c.want || e != api.OK {
			t.Errorf("Get(%v) = %d, %v, want %d, ok", c.b, got, e, c.want)
		}
	}
}

func TestGetOfAnotherLength(t *testing.T) {
	for n := range 20 {
		if n == 8 {
			continue
		}
		if got, e := Get(bytes.Repeat([]byte{7}, n)); got != 0 || e != api.ErrArg {
			t.Errorf("Get of %d bytes = %d, %v, want 0, argument", n, got, e)
		}
	}
	if got, e := Get(nil); got != 0 || e != api.ErrArg {
		t.Errorf("Get(nil) = %d, %v, want 0, argument", got, e)
	}
}

func TestLeast(t *testing.T) {
	for v, want := range map[uint64][]byte{
		0:                  nil,
		1:                  {1},
		255:                {255},
		256:                {1, 0},
		258:                {1, 2},
		65536:              {1, 0, 0},
		1<<56 - 1:          {255, 255, 255, 255, 255, 255, 255},
		1 << 56:            {1, 0, 0, 0, 0, 0, 0, 0},
		0x0100000000000002: {1, 0, 0, 0, 0, 0, 0, 2},
		math.MaxUint64:     {255, 255, 255, 255, 255, 255, 255, 255},
	} {
		if got := Least(v); !bytes.Equal(got, want) {
			t.Errorf("Least(%d) = %v, want %v", v, got, want)
		}
	}
}

func TestFromLeast(t *testing.T) {
	for _, c := range []struct {
		b    []byte
		want uint64
		e    api.Errno
	}{
		{nil, 0, api.OK},
		{[]byte{}, 0, api.OK},
		{[]byte{1}, 1, api.OK},
		{[]byte{1, 0}, 256, api.OK},
		{[]byte{1, 2}, 258, api.OK},
		{[]byte{1, 2, 3, 4, 5, 6, 7, 8}, 0x0102030405060708, api.OK},
		{[]byte{255, 255, 255, 255, 255, 255, 255, 255}, math.MaxUint64, api.OK},
		{[]byte{0}, 0, api.ErrForm},
		{[]byte{0, 1}, 0, api.ErrForm},
		{[]byte{0, 2, 3, 4, 5, 6, 7, 8}, 0, api.ErrForm},
		{[]byte{1, 2, 3, 4, 5, 6, 7, 8, 9}, 0, api.ErrLong},
		{[]byte{0, 2, 3, 4, 5, 6, 7, 8, 9}, 0, api.ErrLong},
		{make([]byte, 100), 0, api.ErrLong},
	} {
		if got, e := FromLeast(c.b); got != c.want || e != c.e {
			t.Errorf("FromLeast(%v) = %d, %v, want %d, %v", c.b, got, e, c.want, c.e)
		}
	}
}

// P1.3

func TestWordsAreReadAsTheyWere(t *testing.T) {
	for _, b := range randomBytes() {
		l := Words(b)
		whole := b[:len(b)/4*4]
		if got := Bytes(l); !bytes.Equal(got, whole) {
			t.Errorf("Bytes(Words(%v)) = %v", b, got)
		}
		if got := Words(Bytes(l)); !slices.Equal(got, l) {
			t.Errorf("Words(Bytes(%#x)) = %#x", l, got)
		}
	}
}

func TestNumbersAreReadAsTheyWere(t *testing.T) {
	for _, v := range numbers() {
		if got, e := Get(Put(v)); got != v || e != api.OK {
			t.Errorf("Get(Put(%d)) = %d, %v", v, got, e)
		}
		if got, e := FromLeast(Least(v)); got != v || e != api.OK {
			t.Errorf("FromLeast(Least(%d)) = %d, %v", v, got, e)
		}
	}
}

func TestNoOtherBytesAreANumbers(t *testing.T) {
	check := func(b []byte) {
		if v, e := Get(b); e == api.OK && !bytes.Equal(Put(v), b) {
			t.Errorf("%v and %v are both Put's bytes of %d", b, Put(v), v)
		}
		if v, e := FromLeast(b); e == api.OK && !bytes.Equal(Least(v), b) {
			t.Errorf("%v and %v are both least bytes of %d", b, Least(v), v)
		}
	}
	check(nil)
	for x := range 1 << 16 {
		check([]byte{byte(x)})
		check([]byte{byte(x >> 8), byte(x)})
		check([]byte{byte(x >> 8), 0, 0, 0, 0, 0, 0, byte(x)})
	}
	for _, b := range randomBytes() {
		check(b)
	}
}

// The rules that hold everywhere: nothing handed in is changed, and answers share no memory.

func TestArgumentsStayAsTheyAre(t *testing.T) {
	room := []byte{1, 2, 3, 4, 5, 6, 7, 8, 9, 10, 11, 12}
	was := slices.Clone(room)
	b := room[:8]
	words := Words(b)
	Get(b)
	FromLeast(b)
	clear(words)
	if !bytes.Equal(room, was) {
		t.Errorf("bytes were changed to %v", room)
	}
	words32 := []uint32{1, 2, 3, 4}
	out := Bytes(words32[:3])
	clear(out)
	if !slices.Equal(words32, []uint32{1, 2, 3, 4}) {
		t.Errorf("words were changed to %v", words32)
	}
}

func TestAnswersAreNewMemory(t *testing.T) {
	for _, answer := range []func() []byte{
		func() []byte { return Put(0x0102030405060708) },
		func() []byte { return Least(258) },
		func() []byte { return Bytes([]uint32{7, 8}) },
	} {
		first := answer()
		want := slices.Clone(first)
		clear(first)
		if got := answer(); !bytes.Equal(got, want) {
			t.Errorf("a changed answer showed in the next one: %v, want %v", got, want)
		}
	}
}
