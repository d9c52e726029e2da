package seal

import (
	"bytes"
	"errors"
	"slices"
	"testing"

	"wristband/api"
	"wristband/mac"
)

// engines of both kinds.
func engines() []api.Engine {
	return []api.Engine{
		{Kind: api.Concrete},
		{Kind: api.Symbolic},
		{Kind: api.Symbolic, Terms: []api.Term{{Key: []byte("other"), Msg: []byte("text")}}},
	}
}

// wrongEngines: of no kind, a Concrete one with a term, and a Symbolic one with a term that is there twice.
func wrongEngines() []api.Engine {
	return []api.Engine{
		{},
		{Kind: 3},
		{Kind: api.Concrete, Terms: []api.Term{{Key: []byte("key"), Msg: []byte("text")}}},
		{Kind: api.Symbolic, Terms: make([]api.Term, 2)},
	}
}

// same engines, a list that is nil being an empty one?
func same(a, b api.Engine) bool {
	return a.Kind == b.Kind && slices.EqualFunc(a.Terms, b.Terms, func(x, y api.Term) bool {
		return bytes.Equal(x.Key, y.Key) && bytes.Equal(x.Msg, y.Msg)
	})
}

// checkErr: a fault at StepSeal of that number; nil, if it is OK.
func checkErr(t *testing.T, err error, e api.Errno) {
	t.Helper()
	if e == api.OK {
		if err != nil {
			t.Errorf("an error %v, want none", err)
		}
		return
	}
	var f *api.Fault
	if !errors.As(err, &f) || f.Step != api.StepSeal || f.Err != e {
		t.Errorf("an error %v, want a fault at %d of %v", err, api.StepSeal, e)
	}
}

func TestPut(t *testing.T) {
	key := []byte("key")
	for _, g := range engines() {
		for _, b := range [][]byte{nil, []byte("text"), make([]byte, 100)} {
			wantG, tag, _ := mac.Tag(g, key, b)
			got, all, err := Put(g, key, b)
			checkErr(t, err, api.OK)
			if !same(got, wantG) || !bytes.Equal(all, slices.Concat(b, tag)) {
				t.Errorf("Put(%v, %q, %v) = %v, %v", g, key, b, got, all)
			}
		}
	}
	for _, g := range wrongEngines() {
		got, all, err := Put(g, key, []byte("text"))
		checkErr(t, err, api.ErrArg)
		if !same(got, g) || len(all) != 0 {
			t.Errorf("Put(%v, ..) = %v, %v, want it as it is, and none", g, got, all)
		}
	}
}

// TestPutIsNewMemory: neither bytes nor their spare room are changed or kept.
func TestPutIsNewMemory(t *testing.T) {
	for _, g := range engines() {
		room := []byte("text and what is behind it")
		_, all, _ := Put(g, []byte("key"), room[:4])
		clear(all[:cap(all)])
		_, all, _ = Put(g, []byte("key"), room[:4])
		if string(room) != "text and what is behind it" {
			t.Errorf("Put left %q", room)
		}
		clear(room)
		if string(all[:4]) != "text" {
			t.Errorf("Put keeps what was handed in: %q", all)
		}
	}
}

// TestCheck: fewer bytes behind than a tag has, more, and a tag that fits or not.
func TestCheck(t *testing.T) {
	key := []byte("key")
	for _, g := range engines() {
		for _, text := range [][]byte{nil, []byte("text"), make([]byte, 100)} {
			g, all, _ := Put(g, key, text)
			end := len(text)
			checkErr(t, Check(g, key, all, end), api.OK)
			for n := range all {
				checkErr(t, Check(g, key, all[:n], end), api.ErrShort)
			}
			for _, more := range []int{1, 2, 8, 300} {
				checkErr(t, Check(g, key, append(slices.Clone(all), make([]byte, more)...), end), api.ErrLong)
			}
			checkErr(t, Check(g, key, all, end+1), api.ErrShort)
			if end > 0 {
				checkErr(t, Check(g, key, all, end-1), api.ErrLong)
			}
			checkErr(t, Check(g, []byte("other"), all, end), api.ErrSum)
			for k := range all {
				turned := slices.Clone(all)
				turned[k] ^= 1
				checkErr(t, Check(g, key, turned, end), api.ErrSum)
			}
			for _, wrong := range wrongEngines() {
				checkErr(t, Check(wrong, key, all, end), api.ErrSum)
				checkErr(t, Check(wrong, key, all[:end], end), api.ErrShort)
			}
		}
	}
}

func TestFault(t *testing.T) {
	for e := api.ErrArg; e <= api.ErrMost; e++ {
		checkErr(t, Fault(e), e)
		var one *api.Fault
		if errors.As(Fault(e), &one) {
			one.Err = api.OK
		}
		checkErr(t, Fault(e), e)
	}
}
