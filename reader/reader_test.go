package reader

import (
	"bytes"
	"math"
	"testing"

	"wristband/api"
)

// check what is left to a reader, and what it has kept.
func check(t *testing.T, r *Reader, left []byte, wrong api.Errno) {
	t.Helper()
	if !bytes.Equal(r.Left, left) || r.Wrong != wrong {
		t.Errorf("%v is left, and %v is kept, want %v, %v", r.Left, r.Wrong, left, wrong)
	}
}

func TestNext(t *testing.T) {
	b := []byte{1, 2, 3, 4, 5}
	for n := range len(b) + 1 {
		r := &Reader{Left: b}
		if got := r.Next(n); !bytes.Equal(got, b[:n]) {
			t.Errorf("the next %d are %v", n, got)
		}
		check(t, r, b[n:], api.OK)
	}
	r := &Reader{Left: b}
	for k := range b {
		if got := r.Next(1); !bytes.Equal(got, b[k:k+1]) {
			t.Errorf("the next one at %d is %v", k, got)
		}
	}
	check(t, r, nil, api.OK)
}

// TestNextOfTooFew: nothing comes then, and nothing any more, though it is there; spare room isn't looked at.
func TestNextOfTooFew(t *testing.T) {
	room := []byte{1, 2, 3, 4, 5}
	for _, n := range []int{4, 5, 6, math.MaxInt} {
		r := &Reader{Left: room[:3]}
		if got := r.Next(n); len(got) != 0 {
			t.Errorf("the next %d of three are %v", n, got)
		}
		check(t, r, room[:3], api.ErrShort)
		for n := range 4 {
			if got := r.Next(n); len(got) != 0 {
				t.Errorf("behind something wrong come %v", got)
			}
		}
		check(t, r, room[:3], api.ErrShort)
	}
}

// TestKeep: what was wrong first stays, and OK is nothing wrong.
func TestKeep(t *testing.T) {
	for first := api.ErrArg; first <= api.ErrMost; first++ {
		for next := api.OK; next <= api.ErrMost; next++ {
			r := &Reader{Left: []byte{7}}
			r.Keep(api.OK)
			check(t, r, []byte{7}, api.OK)
			r.Keep(first)
			r.Keep(next)
			r.Next(2)
			r.Mark(8)
			check(t, r, []byte{7}, first)
		}
	}
}

func TestOne(t *testing.T) {
	for c := range 256 {
		r := &Reader{Left: []byte{byte(c), 9}}
		if got := r.One(); got != byte(c) {
			t.Errorf("one byte of %d is %d", c, got)
		}
		check(t, r, []byte{9}, api.OK)
	}
	r := &Reader{}
	if got := r.One(); got != 0 {
		t.Errorf("one byte of none is %d", got)
	}
	check(t, r, nil, api.ErrShort)
	r = &Reader{Left: []byte{9}, Wrong: api.ErrLong}
	if got := r.One(); got != 0 {
		t.Errorf("one byte behind something wrong is %d", got)
	}
	check(t, r, []byte{9}, api.ErrLong)
}

func TestMark(t *testing.T) {
	for c := range 256 {
		r := &Reader{Left: []byte{byte(c), 9}}
		want := api.ErrForm
		if c == 66 {
			want = api.OK
		}
		r.Mark(66)
		check(t, r, []byte{9}, want)
	}
	for _, mark := range []byte{0, 66} {
		r := &Reader{}
		r.Mark(mark)
		check(t, r, nil, api.ErrShort)
	}
}

func TestNumber(t *testing.T) {
	for _, x := range []struct {
		b    []byte
		want uint64
	}{
		{[]byte{0, 0, 0, 0, 0, 0, 0, 0}, 0},
		{[]byte{0, 0, 0, 0, 0, 0, 1, 2}, 258},
		{[]byte{1, 2, 3, 4, 5, 6, 7, 8}, 0x0102030405060708},
		{[]byte{128, 0, 0, 0, 0, 0, 0, 0}, 1 << 63},
		{bytes.Repeat([]byte{255}, 8), math.MaxUint64},
	} {
		r := &Reader{Left: append(x.b, 9)}
		if got := r.Number(); got != x.want {
			t.Errorf("the number of %v is %d", x.b, got)
		}
		check(t, r, []byte{9}, api.OK)
		for n := range 8 {
			r := &Reader{Left: x.b[:n]}
			if got := r.Number(); got != 0 {
				t.Errorf("the number of %v is %d", x.b[:n], got)
			}
			check(t, r, x.b[:n], api.ErrShort)
		}
		r = &Reader{Left: x.b, Wrong: api.ErrForm}
		if got := r.Number(); got != 0 {
			t.Errorf("the number behind something wrong is %d", got)
		}
		check(t, r, x.b, api.ErrForm)
	}
}

func TestEnd(t *testing.T) {
	for _, x := range []struct {
		left []byte
		is   api.Errno
		want api.Errno
	}{
		{nil, api.OK, api.OK},
		{[]byte{}, api.OK, api.OK},
		{[]byte{0}, api.OK, api.ErrLong},
		{[]byte{1, 2, 3}, api.OK, api.ErrLong},
		{nil, api.ErrForm, api.ErrForm},
		{[]byte{1}, api.ErrShort, api.ErrShort},
	} {
		r := &Reader{Left: x.left, Wrong: x.is}
		r.End()
		check(t, r, x.left, x.want)
	}
}
