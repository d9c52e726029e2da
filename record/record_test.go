package record_test

import (
	"bytes"
	otherhmac "crypto/hmac"
	"crypto/sha256"
	"encoding/binary"
	"encoding/hex"
	"errors"
	"math"
	"math/rand/v2"
	"slices"
	"testing"

	"wristband/api"
	"wristband/mac"
	"wristband/record"
	"wristband/word"
)

// some bytes by chance.
func some(r *rand.Rand, n int) []byte {
	b := make([]byte, n)
	for k := range b {
		b[k] = byte(r.Uint32())
	}
	return b
}

// number by chance, of any length.
func number(r *rand.Rand) uint64 {
	return r.Uint64() >> r.IntN(65)
}

// activation by chance, that is right.
func activation(r *rand.Rand) api.Activation {
	return api.Activation{Ticket: number(r), Epoch: number(r), Device: number(r), Seed: some(r, 1+r.IntN(32))}
}

// of a seed: an activation whose numbers are unlike.
func of(seed []byte) api.Activation {
	return api.Activation{Ticket: 5, Epoch: 1, Device: 2, Seed: seed}
}

// wrongOnes: activations whose seed has no byte, or too many, also by so many that a byte wouldn't tell.
func wrongOnes() []api.Activation {
	l := []api.Activation{{}, of(nil), of([]byte{})}
	for _, n := range []int{0, 33, 34, 63, 64, 65, 127, 128, 255, 256, 257, 288, 289, 65536, 65537} {
		l = append(l, of(make([]byte, n)), of(bytes.Repeat([]byte{255}, n)), of(append(make([]byte, 0, n+40), make([]byte, n)...)))
	}
	return l
}

// example of an activation, its bytes, a key, and the Concrete tag by it, all reckoned elsewhere.
type example struct {
	a    api.Activation
	text string
	key  string
	tag  string
}

func examples() []example {
	upTo32 := make([]byte, 32)
	for k := range upTo32 {
		upTo32[k] = byte(k + 1)
	}
	return []example{
		{
			api.Activation{Ticket: 5, Epoch: 1, Device: 2, Seed: []byte("s")},
			"410000000000000005000000000000000100000000000000020173", "key", "e315e04b51f90af5",
		},
		{
			api.Activation{Ticket: math.MaxUint64, Epoch: math.MaxUint64, Device: math.MaxUint64, Seed: bytes.Repeat([]byte{255}, 32)},
			"41ffffffffffffffffffffffffffffffffffffffffffffffff20ffffffffffffffffffffffffffffffffffffffffffffffffffffffffffffffff", "", "4ee0d2ad15b7f142",
		},
		{
			api.Activation{Seed: []byte{0}},
			"410000000000000000000000000000000000000000000000000100", string(bytes.Repeat([]byte("k"), 100)), "8d30bdf5888cfcb0",
		},
		{
			api.Activation{Ticket: 0x0102030405060708, Epoch: 0x1112131415161718, Device: 0x2122232425262728, Seed: upTo32},
			"41010203040506070811121314151617182122232425262728200102030405060708090a0b0c0d0e0f101112131415161718191a1b1c1d1e1f20", "issuer", "af4b31c659e16df3",
		},
	}
}

func unhex(t *testing.T, s string) []byte {
	t.Helper()
	b, err := hex.DecodeString(s)
	if err != nil {
		t.Fatal(err)
	}
	return b
}

// otherBytes of an activation, whether it is right or not.
func otherBytes(a api.Activation) []byte {
	b := []byte{65}
	b = binary.BigEndian.AppendUint64(b, a.Ticket)
	b = binary.BigEndian.AppendUint64(b, a.Epoch)
	b = binary.BigEndian.AppendUint64(b, a.Device)
	b = append(b, byte(len(a.Seed)))
	return append(b, a.Seed...)
}

// otherTag of a Concrete engine is by the library.
func otherTag(key, msg []byte) []byte {
	h := otherhmac.New(sha256.New, key)
	h.Write(msg)
	return h.Sum(nil)[:8]
}

// otherOpen goes through all that the chapter names, in its order; seal tells whether a tag fits some bytes.
func otherOpen(b []byte, seal func(msg, tag []byte) bool) (api.Activation, api.Errno) {
	if len(b) < 1 {
		return api.Activation{}, api.ErrShort
	}
	if b[0] != 65 {
		return api.Activation{}, api.ErrForm
	}
	if len(b) < 26 {
		return api.Activation{}, api.ErrShort
	}
	many := int(b[25])
	if many == 0 || many > 32 {
		return api.Activation{}, api.ErrForm
	}
	if len(b) < 26+many+8 {
		return api.Activation{}, api.ErrShort
	}
	if len(b) > 26+many+8 {
		return api.Activation{}, api.ErrLong
	}
	if !seal(b[:26+many], b[26+many:]) {
		return api.Activation{}, api.ErrSum
	}
	return api.Activation{
		Ticket: binary.BigEndian.Uint64(b[1:]),
		Epoch:  binary.BigEndian.Uint64(b[9:]),
		Device: binary.BigEndian.Uint64(b[17:]),
		Seed:   b[26 : 26+many],
	}, api.OK
}

// same activations? A list may be nil or empty alike.
func same(a, b api.Activation) bool {
	return a.Ticket == b.Ticket && a.Epoch == b.Epoch && a.Device == b.Device && bytes.Equal(a.Seed, b.Seed)
}

// terms of keys and texts, in turn.
func terms(texts ...string) []api.Term {
	l := []api.Term{}
	for i := 0; i < len(texts); i += 2 {
		l = append(l, api.Term{Key: []byte(texts[i]), Msg: []byte(texts[i+1])})
	}
	return l
}

func sameTerm(a, b api.Term) bool {
	return bytes.Equal(a.Key, b.Key) && bytes.Equal(a.Msg, b.Msg)
}

// sameEngine, a list that is nil being an empty one?
func sameEngine(a, b api.Engine) bool {
	return a.Kind == b.Kind && slices.EqualFunc(a.Terms, b.Terms, sameTerm)
}

// deep copy of an engine.
func deep(g api.Engine) api.Engine {
	out := api.Engine{Kind: g.Kind}
	for _, t := range g.Terms {
		out.Terms = append(out.Terms, api.Term{Key: slices.Clone(t.Key), Msg: slices.Clone(t.Msg)})
	}
	return out
}

// rightEngines of both kinds, without terms and with some, one of which is an activation's bytes.
func rightEngines() []api.Engine {
	return []api.Engine{
		{Kind: api.Concrete},
		{Kind: api.Concrete, Terms: []api.Term{}},
		{Kind: api.Symbolic},
		{Kind: api.Symbolic, Terms: []api.Term{{}}},
		{Kind: api.Symbolic, Terms: terms("key", "text", "", "A", "A", "")},
		{Kind: api.Symbolic, Terms: terms("key", "text", "key", string(otherBytes(of([]byte("seed")))), "a", "b")},
	}
}

// wrongEngines: of no kind, a Concrete one with terms, and Symbolic ones with a term that is there twice.
func wrongEngines() []api.Engine {
	text := string(otherBytes(of([]byte("seed"))))
	l := []api.Engine{
		{Kind: api.Concrete, Terms: []api.Term{{}}},
		{Kind: api.Concrete, Terms: terms("key", text)},
		{Kind: api.Symbolic, Terms: make([]api.Term, 2)},
		{Kind: api.Symbolic, Terms: terms("key", text, "key", text)},
		{Kind: api.Symbolic, Terms: terms("key", text, "a", "b", "a", "b")},
	}
	for _, kind := range []int{0, 3, -1, math.MaxInt, math.MinInt} {
		l = append(l, api.Engine{Kind: kind}, api.Engine{Kind: kind, Terms: terms("key", text)})
	}
	return l
}

// checkErr: an error is a fault at StepSeal that unwraps to this number, whichever way it is asked; nil, if the number is OK.
func checkErr(t *testing.T, err error, e api.Errno) {
	t.Helper()
	if e == api.OK {
		if err != nil {
			t.Errorf("an error %v, want none", err)
		}
		return
	}
	var f *api.Fault
	if !errors.As(err, &f) || f == nil {
		t.Errorf("%v is no fault, want one of %v", err, e)
		return
	}
	if f.Step != 4 {
		t.Errorf("a fault at %d, want 4", f.Step)
	}
	var code api.Errno
	if !errors.As(err, &code) || code != e {
		t.Errorf("a fault of %v, want %v", code, e)
	}
	for other := api.OK; other <= api.ErrMost; other++ {
		if errors.Is(err, other) != (other == e) {
			t.Errorf("asked whether it is %v, the fault of %v answers %v", other, e, other != e)
		}
	}
}

// checkBytes: what Bytes answers, and that what is handed in stays.
func checkBytes(t *testing.T, a api.Activation, want []byte, wantE api.Errno) {
	t.Helper()
	was := slices.Clone(a.Seed)
	if got, e := record.Bytes(a); !bytes.Equal(got, want) || e != wantE {
		t.Errorf("Bytes(%v) = %v, %v, want %v, %v", a, got, e, want, wantE)
	}
	if !bytes.Equal(a.Seed, was) {
		t.Errorf("Bytes left the seed %v as %v", was, a.Seed)
	}
}

// checkSeal: what Seal answers, and that what is handed in stays.
func checkSeal(t *testing.T, g api.Engine, key []byte, a api.Activation, wantG api.Engine, want []byte, wantE api.Errno) {
	t.Helper()
	was, keyWas, seedWas := deep(g), slices.Clone(key), slices.Clone(a.Seed)
	got, b, err := record.Seal(g, key, a)
	if !sameEngine(got, wantG) || !bytes.Equal(b, want) {
		t.Errorf("Seal(%v, %q, %v) = %v, %v, want %v, %v", g, key, a, got, b, wantG, want)
	}
	checkErr(t, err, wantE)
	if !sameEngine(g, was) || !bytes.Equal(key, keyWas) || !bytes.Equal(a.Seed, seedWas) {
		t.Errorf("Seal(%v, %q, ..%v) left %v, %q, %v", was, keyWas, seedWas, g, key, a.Seed)
	}
}

// checkOpen: what Open answers, and that what is handed in stays.
func checkOpen(t *testing.T, g api.Engine, key, b []byte, want api.Activation, wantE api.Errno) {
	t.Helper()
	was, keyWas, bWas := deep(g), slices.Clone(key), slices.Clone(b)
	a, err := record.Open(g, key, b)
	if !same(a, want) {
		t.Errorf("Open(%v, %q, %v) = %v, want %v", g, key, b, a, want)
	}
	checkErr(t, err, wantE)
	if !sameEngine(g, was) || !bytes.Equal(key, keyWas) || !bytes.Equal(b, bWas) {
		t.Errorf("Open(%v, %q, %v) left %v, %q, %v", was, keyWas, bWas, g, key, b)
	}
	if t.Failed() {
		t.Fatalf("Open(%v, %q, %v) isn't as it should be", was, keyWas, bWas)
	}
}

// checkClosed: nothing is opened, but for a fault.
func checkClosed(t *testing.T, g api.Engine, key, b []byte, e api.Errno) {
	t.Helper()
	checkOpen(t, g, key, b, api.Activation{}, e)
}

// sealed bytes, and the engine behind them.
func sealed(t *testing.T, g api.Engine, key []byte, a api.Activation) (api.Engine, []byte) {
	t.Helper()
	behind, b, err := record.Seal(g, key, a)
	checkErr(t, err, api.OK)
	return behind, b
}

// tagged is any text with its tag behind it, and the engine behind that.
func tagged(t *testing.T, g api.Engine, key, text []byte) (api.Engine, []byte) {
	t.Helper()
	behind, tag, e := mac.Tag(g, key, text)
	if e != api.OK {
		t.Fatalf("Tag(%v, %q, %v): %v", g, key, text, e)
	}
	return behind, slices.Concat(text, tag)
}

// P14.1

func TestRight(t *testing.T) {
	for n := range 600 {
		want := n >= 1 && n <= 32
		for _, c := range []byte{0, 1, 255} {
			seed := bytes.Repeat([]byte{c}, n)
			for _, a := range []api.Activation{of(seed), {Seed: seed}, {Ticket: math.MaxUint64, Epoch: math.MaxUint64, Device: math.MaxUint64, Seed: seed}} {
				if record.Right(a) != want {
					t.Errorf("Right of a seed of %d bytes = %v", n, !want)
				}
			}
		}
	}
	for _, a := range wrongOnes() {
		if record.Right(a) {
			t.Errorf("Right of a seed of %d bytes = true", len(a.Seed))
		}
	}
}

// TestRightAsFarAsTheSeedGoes: its spare room doesn't count.
func TestRightAsFarAsTheSeedGoes(t *testing.T) {
	room := make([]byte, 100)
	for n := range room {
		if want := n >= 1 && n <= 32; record.Right(of(room[:n])) != want {
			t.Errorf("Right of a seed of %d bytes, with spare room = %v", n, !want)
		}
	}
}

func TestBytesExamples(t *testing.T) {
	for _, x := range examples() {
		checkBytes(t, x.a, unhex(t, x.text), api.OK)
	}
	// The chapter's example.
	b, _ := record.Bytes(of([]byte{7}))
	if len(b) != 27 {
		t.Errorf("a seed of one byte: %d bytes", len(b))
	}
}

func TestBytesOfEachSeed(t *testing.T) {
	r := rand.New(rand.NewPCG(300, 301))
	for n := 1; n <= 32; n++ {
		for _, seed := range [][]byte{make([]byte, n), bytes.Repeat([]byte{255}, n), some(r, n), some(r, 200)[:n]} {
			checkBytes(t, of(seed), otherBytes(of(seed)), api.OK)
		}
	}
}

// TestBytesOfEachNumber: each bit of each number, and numbers with all bits to one.
func TestBytesOfEachNumber(t *testing.T) {
	for k := range 64 {
		for _, v := range []uint64{1 << k, 1<<k - 1, -(1 << k)} {
			for _, a := range []api.Activation{{Ticket: v}, {Epoch: v}, {Device: v}, {Ticket: v, Epoch: ^v, Device: v + 1}} {
				a.Seed = []byte("seed")
				checkBytes(t, a, otherBytes(a), api.OK)
			}
		}
	}
}

func TestBytesByChance(t *testing.T) {
	r := rand.New(rand.NewPCG(302, 303))
	for range 3000 {
		a := activation(r)
		checkBytes(t, a, otherBytes(a), api.OK)
	}
}

func TestBytesOfWrongOnes(t *testing.T) {
	for _, a := range wrongOnes() {
		checkBytes(t, a, nil, api.ErrArg)
	}
}

func TestSealExamples(t *testing.T) {
	for _, x := range examples() {
		b := unhex(t, x.text)
		g := api.Engine{Kind: api.Concrete}
		checkSeal(t, g, []byte(x.key), x.a, g, slices.Concat(b, unhex(t, x.tag)), api.OK)
		behind := api.Engine{Kind: api.Symbolic, Terms: terms(x.key, string(b))}
		for range 2 {
			// Sealed again by the engine behind it, it has its tag already.
			checkSeal(t, api.Engine{Kind: api.Symbolic}, []byte(x.key), x.a, behind, slices.Concat(b, word.Put(1)), api.OK)
			checkSeal(t, behind, []byte(x.key), x.a, behind, slices.Concat(b, word.Put(1)), api.OK)
		}
	}
}

// TestSealByEachEngine: the bytes are those of Bytes, and the tag behind them, and the engine, those of layer 6.
func TestSealByEachEngine(t *testing.T) {
	r := rand.New(rand.NewPCG(304, 305))
	keys := [][]byte{nil, []byte("key"), []byte("A"), make([]byte, 64), some(r, 65), some(r, 300)}
	for _, g := range rightEngines() {
		for _, key := range keys {
			for n := 1; n <= 32; n++ {
				a := activation(r)
				a.Seed = some(r, n)
				behind, want := tagged(t, g, key, otherBytes(a))
				if len(want) != 34+n {
					t.Fatalf("%d bytes sealed, of a seed of %d", len(want), n)
				}
				checkSeal(t, g, key, a, behind, want, api.OK)
			}
		}
	}
}

// TestSealOneBehindTheOther: a Symbolic engine's tags count on, and each term is a key and an activation's bytes.
func TestSealOneBehindTheOther(t *testing.T) {
	g := api.Engine{Kind: api.Symbolic, Terms: terms("other", "text")}
	for i, c := range []struct {
		key, seed string
		tag       uint64
	}{
		{"key", "one", 2}, {"key", "two", 3}, {"other", "one", 4}, {"key", "one", 2}, {"", "one", 5}, {"other", "one", 4}, {"key", "on", 6},
	} {
		behind, b := sealed(t, g, []byte(c.key), of([]byte(c.seed)))
		text := otherBytes(of([]byte(c.seed)))
		if want := slices.Concat(text, word.Put(c.tag)); !bytes.Equal(b, want) {
			t.Errorf("at %d %v was sealed, want %v", i, b, want)
		}
		if x := behind.Terms[c.tag-1]; string(x.Key) != c.key || !bytes.Equal(x.Msg, text) {
			t.Errorf("at %d the term of the tag %d is %q, %q", i, c.tag, x.Key, x.Msg)
		}
		g = behind
	}
	if len(g.Terms) != 6 || g.Kind != api.Symbolic {
		t.Errorf("behind all of them: %v", g)
	}
}

func TestSealOfWrongOnes(t *testing.T) {
	keys := [][]byte{nil, []byte("key"), []byte("new")}
	for _, a := range wrongOnes() {
		for _, g := range append(rightEngines(), wrongEngines()...) {
			for _, key := range keys {
				checkSeal(t, g, key, a, g, nil, api.ErrArg)
			}
		}
	}
}

func TestSealByWrongEngines(t *testing.T) {
	for _, g := range wrongEngines() {
		for _, a := range []api.Activation{of([]byte("seed")), of([]byte("new")), {Seed: []byte{0}}, of(make([]byte, 32))} {
			for _, key := range [][]byte{nil, []byte("key"), []byte("new")} {
				checkSeal(t, g, key, a, g, nil, api.ErrArg)
			}
		}
	}
}

// P14.2

func TestOpenExamples(t *testing.T) {
	for _, x := range examples() {
		b := unhex(t, x.text)
		checkOpen(t, api.Engine{Kind: api.Concrete}, []byte(x.key), slices.Concat(b, unhex(t, x.tag)), x.a, api.OK)
		for _, g := range []api.Engine{
			{Kind: api.Symbolic, Terms: terms("other", "text", x.key, string(b))},
			{Kind: api.Symbolic, Terms: terms("other", string(b), x.key, string(b), "behind", "it")},
		} {
			checkOpen(t, g, []byte(x.key), slices.Concat(b, word.Put(2)), x.a, api.OK)
		}
	}
}

// TestOpenOfNoBytes: that there is none comes ahead of the engine's being wrong, too.
func TestOpenOfNoBytes(t *testing.T) {
	for _, g := range append(rightEngines(), wrongEngines()...) {
		for _, b := range [][]byte{nil, {}, []byte("A behind")[:0]} {
			checkClosed(t, g, []byte("key"), b, api.ErrShort)
			checkClosed(t, g, nil, b, api.ErrShort)
		}
	}
}

// TestOpenOfEachMark: any first byte, of bytes of any length, whose tag fits as well.
func TestOpenOfEachMark(t *testing.T) {
	key := []byte("key")
	for c := range 256 {
		text := otherBytes(of([]byte("seed")))
		text[0] = byte(c)
		for _, g := range rightEngines() {
			behind, all := tagged(t, g, key, text)
			if c == 65 {
				checkOpen(t, behind, key, all, of([]byte("seed")), api.OK)
				continue
			}
			checkClosed(t, behind, key, all, api.ErrForm)
			for _, n := range []int{1, 2, 9, 25, 26, 29, 30, 37} {
				checkClosed(t, behind, key, all[:n], api.ErrForm)
			}
			checkClosed(t, behind, key, append(all, 0), api.ErrForm)
			checkClosed(t, behind, []byte("other"), all, api.ErrForm)
		}
		for _, g := range wrongEngines() {
			if c != 65 {
				checkClosed(t, g, key, []byte{byte(c)}, api.ErrForm)
			}
		}
	}
}

// TestOpenOfEachLength: all beginnings of sealed bytes, and some bytes more.
func TestOpenOfEachLength(t *testing.T) {
	r := rand.New(rand.NewPCG(306, 307))
	for n := 1; n <= 32; n++ {
		for _, kind := range []int{api.Concrete, api.Symbolic} {
			a, key := of(some(r, n)), some(r, 8)
			g, b := sealed(t, api.Engine{Kind: kind}, key, a)
			for k := range b {
				checkClosed(t, g, key, b[:k], api.ErrShort)
				checkClosed(t, api.Engine{}, key, b[:k], api.ErrShort)
			}
			checkOpen(t, g, key, b, a, api.OK)
			for _, more := range []int{1, 2, 7, 8, 9, 40, 256, 65536} {
				for _, rest := range [][]byte{make([]byte, more), some(r, more)} {
					checkClosed(t, g, key, slices.Concat(b, rest), api.ErrLong)
					checkClosed(t, api.Engine{}, key, slices.Concat(b, rest), api.ErrLong)
				}
			}
			// Twice, and with a byte ahead.
			checkClosed(t, g, key, slices.Concat(b, b), api.ErrLong)
			checkClosed(t, g, key, slices.Concat([]byte{0}, b), api.ErrForm)
			checkClosed(t, g, key, slices.Concat([]byte{65}, b), lengthWhenShifted(b))
		}
	}
}

// lengthWhenShifted: what is told of sealed bytes with a mark more ahead of them: how many the seed has is then the device's last byte, 2.
func lengthWhenShifted(b []byte) api.Errno {
	switch want := 26 + 2 + 8; {
	case len(b)+1 < want:
		return api.ErrShort
	case len(b)+1 > want:
		return api.ErrLong
	}
	return api.ErrSum
}

// TestOpenOfEachSize: any byte that says how many the seed has, with so many behind it, fewer and more; tags that fit as well.
func TestOpenOfEachSize(t *testing.T) {
	key := []byte("key")
	head := otherBytes(of([]byte("s")))[:25]
	for many := range 256 {
		for _, has := range []int{0, 1, 2, 8, 24, 31, 32, 33, 40, many - 9, many - 8, many - 1, many, many + 1, many + 8, 300} {
			if has < 0 {
				continue
			}
			text := slices.Concat(head, []byte{byte(many)}, bytes.Repeat([]byte{7}, has))
			want := api.OK
			switch {
			case many == 0 || many > 32:
				want = api.ErrForm
			case has < many:
				want = api.ErrShort
			case has > many:
				want = api.ErrLong
			}
			a := api.Activation{}
			if want == api.OK {
				a = of(bytes.Repeat([]byte{7}, has))
			}
			for _, g := range rightEngines() {
				behind, all := tagged(t, g, key, text)
				checkOpen(t, behind, key, all, a, want)
			}
			if want != api.OK {
				all := slices.Concat(text, make([]byte, 8))
				checkClosed(t, api.Engine{}, key, all, want)
			}
		}
		// Nothing is behind it: ErrForm comes ahead of what is missing.
		want := api.ErrShort
		if many == 0 || many > 32 {
			want = api.ErrForm
		}
		checkClosed(t, api.Engine{Kind: api.Concrete}, key, slices.Concat(head, []byte{byte(many)}), want)
		checkClosed(t, api.Engine{}, key, slices.Concat(head, []byte{byte(many)}), want)
	}
}

// TestOpenOfATagThatDoesNotFit: another key's, another engine's, another text's.
func TestOpenOfATagThatDoesNotFit(t *testing.T) {
	a, key := of([]byte("seed")), []byte("key")
	text := otherBytes(a)
	concrete, symbolic := api.Engine{Kind: api.Concrete}, api.Engine{Kind: api.Symbolic}
	for _, g := range []api.Engine{concrete, symbolic, {Kind: api.Symbolic, Terms: terms("", "text")}} {
		behind, b := sealed(t, g, key, a)
		for _, other := range [][]byte{nil, []byte("ke"), []byte("key "), []byte("Key"), []byte("keykey"), text, b} {
			checkClosed(t, behind, other, b, api.ErrSum)
		}
	}
	// Sealed by one kind, opened by the other.
	symbolicBehind, bySymbolic := sealed(t, symbolic, key, a)
	_, byConcrete := sealed(t, concrete, key, a)
	checkClosed(t, concrete, key, bySymbolic, api.ErrSum)
	checkClosed(t, symbolicBehind, key, byConcrete, api.ErrSum)
	// An elder engine hasn't made the tag.
	checkClosed(t, symbolic, key, bySymbolic, api.ErrSum)
	checkOpen(t, symbolicBehind, key, bySymbolic, a, api.OK)
	// Other numbers than the tag's, among them that of another term.
	behind, _ := sealed(t, symbolicBehind, key, of([]byte("other")))
	for _, v := range []uint64{0, 2, 3, 255, 257, 1 << 32, 1<<32 + 1, 1 << 63, math.MaxUint64} {
		checkClosed(t, behind, key, slices.Concat(text, word.Put(v)), api.ErrSum)
	}
	// Tags of parts of the bytes, of those with more behind them, and of none.
	for _, part := range [][]byte{nil, text[1:], text[:25], text[:26], text[:len(text)-1], a.Seed, append(slices.Clone(text), 0), bySymbolic} {
		checkClosed(t, concrete, key, slices.Concat(text, otherTag(key, part)), api.ErrSum)
		_, partTagged := tagged(t, behind, key, part)
		checkClosed(t, behind, key, slices.Concat(text, partTagged[len(part):]), api.ErrSum)
	}
}

// TestOpenByWrongEngines: their tags don't fit, though the bytes were sealed so.
func TestOpenByWrongEngines(t *testing.T) {
	key, text := []byte("key"), otherBytes(of([]byte("seed")))
	for _, g := range wrongEngines() {
		for _, tag := range [][]byte{otherTag(key, text), word.Put(0), word.Put(1), word.Put(2), word.Put(3)} {
			checkClosed(t, g, key, slices.Concat(text, tag), api.ErrSum)
		}
	}
}

// TestOpenAsTheChapterSays: sealed bytes that are cut, lengthened, shifted, or changed, with a tag that fits or not, held against otherOpen.
func TestOpenAsTheChapterSays(t *testing.T) {
	r := rand.New(rand.NewPCG(308, 309))
	codes := map[api.Errno]int{}
	for range 6000 {
		key := some(r, r.IntN(70))
		text := otherBytes(activation(r))
		switch r.IntN(5) {
		case 0:
			text[25] = byte(r.IntN(40))
		case 1:
			text = text[:r.IntN(len(text)+1)]
		case 2:
			text = append(text, some(r, r.IntN(4))...)
		case 3:
			text = some(r, r.IntN(80))
		}
		b := slices.Concat(text, otherTag(key, text))
		if r.IntN(4) == 0 {
			b[r.IntN(len(b))] = byte(r.Uint32())
		}
		want, e := otherOpen(b, func(msg, tag []byte) bool { return bytes.Equal(otherTag(key, msg), tag) })
		codes[e]++
		checkOpen(t, api.Engine{Kind: api.Concrete}, key, b, want, e)
	}
	for _, e := range []api.Errno{api.OK, api.ErrShort, api.ErrForm, api.ErrLong, api.ErrSum} {
		if codes[e] < 50 {
			t.Errorf("%v was told only %d times", e, codes[e])
		}
	}
}

// TestOpenOfShortOnes: all bytes of a few kinds, up to a few.
func TestOpenOfShortOnes(t *testing.T) {
	kinds := []byte{0, 1, 64, 65, 66, 255}
	list := [][]byte{nil}
	for range 4 {
		for _, b := range list {
			want, e := otherOpen(b, func(_, _ []byte) bool { return true })
			checkOpen(t, api.Engine{Kind: api.Concrete}, []byte("key"), b, want, e)
		}
		var next [][]byte
		for _, b := range list {
			for _, c := range kinds {
				next = append(next, slices.Concat(b, []byte{c}))
			}
		}
		list = next
	}
}

// TestOpenAsFarAsTheBytesGo: spare room behind them is not looked at.
func TestOpenAsFarAsTheBytesGo(t *testing.T) {
	a, key := of([]byte("seed")), []byte("key")
	for _, g := range rightEngines() {
		behind, b := sealed(t, g, key, a)
		room := slices.Concat(b, b)
		checkOpen(t, behind, key, room[:len(b)], a, api.OK)
		for k := range b {
			checkClosed(t, behind, key, room[:k], api.ErrShort)
		}
	}
}

// P14.3

// TestBack: what was sealed is opened as it was, by the engine behind it, and by each that is behind others, too.
func TestBack(t *testing.T) {
	r := rand.New(rand.NewPCG(310, 311))
	for _, kind := range []int{api.Concrete, api.Symbolic} {
		type one struct {
			a      api.Activation
			key, b []byte
		}
		var all []one
		g, _ := mac.New(kind)
		for range 60 {
			x := one{a: activation(r), key: some(r, r.IntN(4))}
			ahead := g
			g, x.b = sealed(t, g, x.key, x.a)
			if kind == api.Symbolic {
				checkClosed(t, ahead, x.key, x.b, api.ErrSum)
			}
			all = append(all, x)
			for _, y := range all {
				checkOpen(t, g, y.key, y.b, y.a, api.OK)
			}
			// Sealed once more, it is the same, and the engine behind it, too.
			again, b := sealed(t, g, x.key, x.a)
			if !sameEngine(again, g) || !bytes.Equal(b, x.b) {
				t.Fatalf("%v was sealed as %v, and then as %v", x.a, x.b, b)
			}
		}
		if !mac.Right(g) {
			t.Errorf("the engine behind all of them isn't right: %v", g)
		}
	}
}

// TestBackOfTheEdges: all seeds there may be by their length, and numbers at their ends.
func TestBackOfTheEdges(t *testing.T) {
	key := []byte("key")
	for n := 1; n <= 32; n++ {
		for _, c := range []byte{0, 65, 255} {
			for _, v := range []uint64{0, 1, 255, 256, 1 << 32, 1 << 63, math.MaxUint64} {
				a := api.Activation{Ticket: v, Epoch: ^v, Device: v * 257, Seed: bytes.Repeat([]byte{c}, n)}
				for _, g := range rightEngines() {
					behind, b := sealed(t, g, key, a)
					checkOpen(t, behind, key, b, a, api.OK)
				}
			}
		}
	}
}

// TestTurned: each place of sealed bytes to any other byte, and nothing is opened. By a Concrete engine just these tags don't fit, as it is.
func TestTurned(t *testing.T) {
	key := []byte("key")
	seal := func(_, _ []byte) bool { return false }
	for _, seed := range [][]byte{{0}, []byte("seed"), bytes.Repeat([]byte{255}, 32)} {
		for _, kind := range []int{api.Symbolic, api.Concrete} {
			// The engine has some tags already, so that one turned may be another's.
			g := api.Engine{Kind: kind}
			for _, other := range []string{"a", "b", "c"} {
				g, _ = sealed(t, g, key, of([]byte(other)))
			}
			g, b := sealed(t, g, key, of(seed))
			for k := range b {
				for turn := 1; turn < 256; turn++ {
					x := slices.Clone(b)
					x[k] ^= byte(turn)
					_, want := otherOpen(x, seal)
					checkClosed(t, g, key, x, want)
				}
			}
			checkOpen(t, g, key, b, of(seed), api.OK)
		}
	}
}

// TestTurnedAndSealedSo: two activations that are unlike in one place, both sealed: each is opened by its own tag alone.
func TestTurnedAndSealedSo(t *testing.T) {
	key := []byte("key")
	a := of([]byte("seed"))
	others := []api.Activation{
		{Ticket: 4, Epoch: 1, Device: 2, Seed: a.Seed}, {Ticket: 5, Epoch: 3, Device: 2, Seed: a.Seed},
		{Ticket: 5, Epoch: 1, Device: 258, Seed: a.Seed}, of([]byte("need")), of([]byte("seee")),
	}
	for _, kind := range []int{api.Concrete, api.Symbolic} {
		for _, x := range others {
			g, one := sealed(t, api.Engine{Kind: kind}, key, a)
			g, other := sealed(t, g, key, x)
			checkOpen(t, g, key, one, a, api.OK)
			checkOpen(t, g, key, other, x, api.OK)
			end := len(one) - 8
			checkClosed(t, g, key, slices.Concat(one[:end], other[end:]), api.ErrSum)
			checkClosed(t, g, key, slices.Concat(other[:end], one[end:]), api.ErrSum)
		}
	}
}

// TestOpenedIsJustWhatWasSealed: of all that a Symbolic engine's tags could stand for, only what was sealed is opened.
func TestOpenedIsJustWhatWasSealed(t *testing.T) {
	keys := [][]byte{nil, []byte("key"), []byte("A")}
	seeds := []string{"a", "b", "ab", "\x00", "a\x00"}
	type made struct{ key, seed string }
	tags := map[made]uint64{}
	g := api.Engine{Kind: api.Symbolic}
	for i, seed := range seeds {
		for k, key := range keys {
			if (i+k)%2 == 0 {
				g, _ = sealed(t, g, key, of([]byte(seed)))
				tags[made{string(key), seed}] = uint64(len(g.Terms))
			}
		}
	}
	opened := 0
	for _, seed := range seeds {
		for _, key := range keys {
			for v := range uint64(len(g.Terms) + 2) {
				a, want := of([]byte(seed)), api.OK
				if tag, ok := tags[made{string(key), seed}]; !ok || tag != v {
					a, want = api.Activation{}, api.ErrSum
				} else {
					opened++
				}
				checkOpen(t, g, key, slices.Concat(otherBytes(of([]byte(seed))), word.Put(v)), a, want)
			}
		}
	}
	if opened != len(tags) || opened < 7 {
		t.Errorf("%d were opened of %d that were sealed", opened, len(tags))
	}
}

// The rules that hold everywhere.

func TestFaultsAreNewMemory(t *testing.T) {
	concrete := api.Engine{Kind: api.Concrete}
	for _, call := range []func() error{
		func() error { _, _, err := record.Seal(concrete, nil, api.Activation{}); return err },
		func() error { _, _, err := record.Seal(api.Engine{}, nil, of([]byte("seed"))); return err },
		func() error { _, err := record.Open(concrete, nil, nil); return err },
		func() error { _, err := record.Open(concrete, nil, []byte{66}); return err },
		func() error { _, err := record.Open(concrete, nil, make([]byte, 38)); return err },
		func() error {
			_, err := record.Open(concrete, nil, append(otherBytes(of([]byte("seed"))), make([]byte, 8)...))
			return err
		},
		func() error {
			_, err := record.Open(concrete, nil, append(otherBytes(of([]byte("seed"))), make([]byte, 9)...))
			return err
		},
	} {
		var one, other *api.Fault
		if !errors.As(call(), &one) || !errors.As(call(), &other) {
			t.Fatal("no fault")
		}
		was := *other
		one.Step, one.Err = 77, api.ErrMost
		if *other != was {
			t.Errorf("two faults share memory: %v", other)
		}
	}
}

// spoilBytes in all their room.
func spoilBytes(b []byte) {
	b = b[:cap(b)]
	for k := range b {
		b[k] ^= 85
	}
}

// spoil all of an engine's memory, its spare room, too.
func spoil(g api.Engine) {
	l := g.Terms[:cap(g.Terms)]
	for i, x := range l {
		spoilBytes(x.Key)
		spoilBytes(x.Msg)
		l[i] = api.Term{Key: []byte("spoilt"), Msg: []byte("spoilt")}
	}
}

// TestAnswersAreNewMemory: spoiling what was handed in leaves an answer, and the other way; neither has the other's spare room.
func TestAnswersAreNewMemory(t *testing.T) {
	seeds := [][]byte{nil, []byte("seed"), []byte("new"), make([]byte, 32), make([]byte, 33)}
	for _, engine := range append(rightEngines(), wrongEngines()...) {
		for _, seed := range seeds {
			rest := bytes.Repeat([]byte{111}, 60)
			room := slices.Concat(seed, rest)
			key := []byte("key")
			g := deep(engine)
			a := of(room[:len(seed)])

			want, wantB, _ := record.Seal(g, key, a)
			want, wantB = deep(want), slices.Clone(wantB)
			got, b, err := record.Seal(g, key, a)
			text, _ := record.Bytes(a)
			spoil(got)
			spoilBytes(text)
			if !sameEngine(g, engine) || !bytes.Equal(room, slices.Concat(seed, rest)) || string(key) != "key" || !bytes.Equal(b, wantB) {
				t.Errorf("Seal(%v, .., %v) shares memory: %v, %v, %q, %v", engine, seed, g, room, key, b)
			}
			spoilBytes(b)
			got, b, err = record.Seal(g, key, a)
			spoil(g)
			spoilBytes(room)
			spoilBytes(key)
			if !sameEngine(got, want) || !bytes.Equal(b, wantB) {
				t.Errorf("Seal(%v, .., %v) keeps what was handed in: %v, %v", engine, seed, got, b)
			}
			if err == nil {
				spoilBytes(b)
				if !sameEngine(got, want) {
					t.Errorf("the sealed bytes of %v share memory with the engine behind them: %v", seed, got)
				}
			}
		}
	}
}

func TestOpenedIsNewMemory(t *testing.T) {
	key := []byte("key")
	for _, g := range rightEngines() {
		for _, seed := range [][]byte{[]byte("seed"), {0}, make([]byte, 32)} {
			behind, b := sealed(t, g, key, of(seed))
			was, rest := slices.Clone(b), bytes.Repeat([]byte{111}, 40)
			engineWas := deep(behind)
			room := slices.Concat(b, rest)
			one, _ := record.Open(behind, key, room[:len(b)])
			other, _ := record.Open(behind, key, room[:len(b)])
			spoilBytes(one.Seed)
			if !bytes.Equal(room, slices.Concat(was, rest)) || !sameEngine(behind, engineWas) {
				t.Errorf("what was opened shares memory with %v, %v", room, behind)
			}
			spoilBytes(room)
			spoil(behind)
			if !same(other, of(seed)) {
				t.Errorf("what was opened came as %v, and was %v", other, seed)
			}
		}
	}
}

// TestSpareRoomIsNotPutIn: by two engines of one list with spare room, neither seal is to be seen in the other.
func TestSpareRoomIsNotPutIn(t *testing.T) {
	key := []byte("key")
	roomy := api.Engine{Kind: api.Symbolic, Terms: append(make([]api.Term, 0, 20), terms("x", "y")...)}
	one, oneB := sealed(t, roomy, key, of([]byte("one")))
	two, twoB := sealed(t, roomy, key, of([]byte("two")))
	checkOpen(t, one, key, oneB, of([]byte("one")), api.OK)
	checkOpen(t, two, key, twoB, of([]byte("two")), api.OK)
	checkClosed(t, one, key, twoB, api.ErrSum)
	checkClosed(t, two, key, oneB, api.ErrSum)
	if l := roomy.Terms[:2]; l[1].Key != nil || l[1].Msg != nil {
		t.Errorf("something was put into the spare room: %v", l[1])
	}
	// Of the key and the seed, only what they have counts.
	room := []byte("key and more")
	seed := []byte("seed and more")
	g, b := sealed(t, api.Engine{Kind: api.Symbolic}, room[:3], of(seed[:4]))
	checkOpen(t, g, key, b, of([]byte("seed")), api.OK)
	if string(room) != "key and more" || string(seed) != "seed and more" || len(b) != 38 {
		t.Errorf("%q and %q are left, and %v was sealed", room, seed, b)
	}
}
