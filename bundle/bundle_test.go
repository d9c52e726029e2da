package bundle_test

import (
	"bytes"
	otherhmac "crypto/hmac"
	"crypto/sha256"
	"encoding/binary"
	"encoding/hex"
	"errors"
	"math"
	"math/rand/v2"
	"slices"
	"testing"

	"wristband/api"
	"wristband/bundle"
	"wristband/gone"
	"wristband/mac"
	"wristband/word"
)

// some bytes by chance.
func some(r *rand.Rand, n int) []byte {
	b := make([]byte, n)
	for k := range b {
		b[k] = byte(r.Uint32())
	}
	return b
}

// number by chance, of any length.
func number(r *rand.Rand) uint64 {
	return r.Uint64() >> r.IntN(65)
}

// of a ticket, an epoch and a seed.
func of(ticket, epoch uint64, seed string) api.Entry {
	return api.Entry{Ticket: ticket, Epoch: epoch, Seed: []byte(seed)}
}

// having entries: a bundle of a Version that has unlike bytes, without anything gone.
func having(entries ...api.Entry) api.Bundle {
	return api.Bundle{Version: 0x0102030405060708, Entries: entries}
}

// without entries, but for what is gone: tickets and epochs, in turn.
func without(numbers ...uint64) api.Bundle {
	x := api.Bundle{Version: 3}
	for k := 0; k < len(numbers); k += 2 {
		x.Gone = append(x.Gone, api.Gone{Ticket: numbers[k], Epoch: numbers[k+1]})
	}
	return x
}

// both the one's entries, and what is gone of the other.
func both(one, other api.Bundle) api.Bundle {
	one.Gone = other.Gone
	return one
}

// rising numbers by chance, none twice.
func rising(r *rand.Rand, n int) []uint64 {
	var l []uint64
	for len(l) < n {
		l = append(l, number(r))
		slices.Sort(l)
		l = slices.Compact(l)
	}
	return l
}

// rightOne by chance, of so many entries, and so many gone.
func rightOne(r *rand.Rand, entries, revoked int) api.Bundle {
	x := api.Bundle{Version: number(r)}
	for _, ticket := range rising(r, entries) {
		x.Entries = append(x.Entries, api.Entry{Ticket: ticket, Epoch: number(r), Seed: some(r, 1+r.IntN(32))})
	}
	for _, ticket := range rising(r, revoked) {
		x.Gone = append(x.Gone, api.Gone{Ticket: ticket, Epoch: number(r)})
	}
	return x
}

// deep copy of a bundle.
func deep(x api.Bundle) api.Bundle {
	out := api.Bundle{Version: x.Version, Gone: slices.Clone(x.Gone)}
	for _, e := range x.Entries {
		e.Seed = slices.Clone(e.Seed)
		out.Entries = append(out.Entries, e)
	}
	return out
}

func sameEntry(a, b api.Entry) bool {
	return a.Ticket == b.Ticket && a.Epoch == b.Epoch && bytes.Equal(a.Seed, b.Seed)
}

// same bundles? A list may be nil or empty alike.
func same(a, b api.Bundle) bool {
	return a.Version == b.Version && slices.EqualFunc(a.Entries, b.Entries, sameEntry) && slices.Equal(a.Gone, b.Gone)
}

// otherRight holds each two entries together, not just neighbours.
func otherRight(x api.Bundle) bool {
	for i, e := range x.Entries {
		if len(e.Seed) == 0 || len(e.Seed) > 32 {
			return false
		}
		for _, ahead := range x.Entries[:i] {
			if ahead.Ticket >= e.Ticket {
				return false
			}
		}
	}
	return len(x.Entries) < 65 && gone.Right(x.Gone)
}

// otherBytes of a bundle, whether it is right or not.
func otherBytes(x api.Bundle) []byte {
	b := binary.BigEndian.AppendUint64([]byte{66}, x.Version)
	b = append(b, byte(len(x.Entries)))
	for _, e := range x.Entries {
		b = binary.BigEndian.AppendUint64(b, e.Ticket)
		b = binary.BigEndian.AppendUint64(b, e.Epoch)
		b = append(b, byte(len(e.Seed)))
		b = append(b, e.Seed...)
	}
	b = append(b, byte(len(x.Gone)))
	for _, g := range x.Gone {
		b = binary.BigEndian.AppendUint64(b, g.Ticket)
		b = binary.BigEndian.AppendUint64(b, g.Epoch)
	}
	return b
}

// otherEntries goes through so many entries, and tells where they end.
func otherEntries(b []byte, at, many int) ([]api.Entry, int, api.Errno) {
	var l []api.Entry
	for range many {
		if len(b) < at+17 {
			return nil, 0, api.ErrShort
		}
		size := int(b[at+16])
		if size == 0 || size > 32 {
			return nil, 0, api.ErrForm
		}
		if len(b) < at+17+size {
			return nil, 0, api.ErrShort
		}
		l = append(l, api.Entry{
			Ticket: binary.BigEndian.Uint64(b[at:]),
			Epoch:  binary.BigEndian.Uint64(b[at+8:]),
			Seed:   b[at+17 : at+17+size],
		})
		at += 17 + size
	}
	return l, at, api.OK
}

// otherRead goes through all that the chapter names, in its order.
func otherRead(b []byte) (api.Bundle, int, api.Errno) {
	switch {
	case len(b) == 0:
		return api.Bundle{}, 0, api.ErrShort
	case b[0] != 66:
		return api.Bundle{}, 0, api.ErrForm
	case len(b) < 10:
		return api.Bundle{}, 0, api.ErrShort
	case b[9] > 64:
		return api.Bundle{}, 0, api.ErrForm
	}
	entries, at, e := otherEntries(b, 10, int(b[9]))
	if e != api.OK {
		return api.Bundle{}, 0, e
	}
	l, n, e := gone.Read(b[at:])
	if e != api.OK {
		return api.Bundle{}, 0, e
	}
	x := api.Bundle{Version: binary.BigEndian.Uint64(b[1:]), Entries: entries, Gone: l}
	if !otherRight(x) {
		return api.Bundle{}, 0, api.ErrForm
	}
	return x, at + n, api.OK
}

// rightOnes: of all numbers of entries and gone there may be, seeds of each length, and numbers at their ends.
func rightOnes() []api.Bundle {
	const end = math.MaxUint64
	l := []api.Bundle{
		{}, {Entries: []api.Entry{}, Gone: []api.Gone{}}, {Version: end}, {Version: 1 << 63},
		having(of(0, 0, "\x00")), having(of(end, end, "seed")), having(of(5, 1, "s")),
		having(of(0, end, "a"), of(1, 0, "b")), having(of(1, 5, "a"), of(2, 5, "a"), of(3, 5, "a")),
		having(of(255, 9, "a"), of(256, 0, "b")), having(of(1, 0, "a"), of(1<<63, 0, "b"), of(end, 0, "c")),
		having(of(1<<63-1, 2, "a"), of(1<<63, 1, "b")), having(of(1<<32-1, 2, "a"), of(1<<32, 1, "b")),
		without(5, 1), without(5, 1, 5, 2, 6, 0), without(0, 0, end, end),
		both(having(of(5, 1, "s")), without(5, 1)), both(having(of(5, 2, "s"), of(7, 1, "t")), without(5, 1, 6, 3, 9, 9)),
	}
	for n := 1; n <= 32; n++ {
		l = append(l, having(of(5, 1, string(bytes.Repeat([]byte{66}, n))), of(6, 1, string(make([]byte, 33-n)))))
	}
	r := rand.New(rand.NewPCG(500, 501))
	for n := range 65 {
		l = append(l, rightOne(r, n, 0), rightOne(r, 0, n), rightOne(r, n, 64-n))
	}
	return append(l, rightOne(r, 64, 64))
}

// wrongSizes of an entry's seed, also by so many that a byte wouldn't tell.
func wrongSizes() []int {
	return []int{0, 33, 34, 64, 127, 128, 255, 256, 257, 288, 289, 65536, 65537}
}

// wrongInOrder: bundles whose counts may be, but for the order of their tickets, or what is gone.
func wrongInOrder() []api.Bundle {
	const end = math.MaxUint64
	l := []api.Bundle{
		having(of(0, 0, "a"), of(0, 0, "a")), having(of(5, 1, "a"), of(5, 2, "b")), having(of(6, 1, "a"), of(5, 2, "b")),
		having(of(1<<63, 0, "a"), of(1, 1, "b")), having(of(256, 0, "a"), of(255, 1, "b")), having(of(end, 0, "a"), of(end, 1, "b")),
		having(of(1<<32, 0, "a"), of(1<<32-1, 1, "b")), having(of(1, 1, "a"), of(2, 2, "b"), of(1, 3, "c")),
		having(of(3, 1, "a"), of(1, 2, "b"), of(2, 3, "c")), having(of(1, 1, "a"), of(3, 2, "b"), of(2, 3, "c")),
		without(5, 1, 5, 1), without(5, 2, 5, 1), without(6, 1, 5, 2), both(having(of(5, 1, "s")), without(1, 1, 2, 2, 1, 3)),
	}
	r := rand.New(rand.NewPCG(502, 503))
	for _, n := range []int{2, 10, 64} {
		for k := range n - 1 {
			swapped, twice, behind := rightOne(r, n, 2), rightOne(r, n, 0), rightOne(r, 3, n)
			swapped.Entries[k], swapped.Entries[k+1] = swapped.Entries[k+1], swapped.Entries[k]
			twice.Entries[k+1].Ticket = twice.Entries[k].Ticket
			behind.Gone[k+1] = behind.Gone[k]
			l = append(l, swapped, twice, behind)
		}
	}
	return l
}

// wrongOnes: also with too many entries, or gone, and with seeds of a wrong size at each place.
func wrongOnes() []api.Bundle {
	l := wrongInOrder()
	r := rand.New(rand.NewPCG(504, 505))
	for _, n := range []int{65, 66, 127, 128, 129, 255, 256, 257, 300, 320} {
		l = append(l, rightOne(r, n, 0), rightOne(r, n, 64), rightOne(r, 0, n), rightOne(r, 64, n))
	}
	for _, size := range wrongSizes() {
		l = append(l, having(of(5, 1, string(make([]byte, size)))))
		for k := range 3 {
			x := rightOne(r, 3, 2)
			x.Entries[k].Seed = some(r, size)
			l = append(l, x)
		}
	}
	for k := range 64 {
		none, much := rightOne(r, 64, 0), rightOne(r, 64, 64)
		none.Entries[k].Seed = nil
		much.Entries[k].Seed = some(r, 33)
		l = append(l, none, much)
	}
	return l
}

// example of a bundle, its bytes, a key, and the Concrete tag by it, all reckoned elsewhere.
type example struct {
	x    api.Bundle
	text string
	key  string
	tag  string
}

func examples() []example {
	const end = math.MaxUint64
	return []example{
		{
			api.Bundle{},
			"4200000000000000000000", "key", "839c46a7166d60fb",
		},
		{
			api.Bundle{Version: 258, Entries: []api.Entry{of(5, 1, "s")}},
			"4200000000000001020100000000000000050000000000000001017300", "issuer", "3ee462e49c2fcd50",
		},
		{
			api.Bundle{Version: end, Entries: []api.Entry{{Ticket: end, Epoch: end, Seed: bytes.Repeat([]byte{255}, 32)}}, Gone: []api.Gone{{Ticket: end, Epoch: end}}},
			"42ffffffffffffffff01ffffffffffffffffffffffffffffffff20ffffffffffffffffffffffffffffffffffffffffffffffffffffffffffffffff01ffffffffffffffffffffffffffffffff", "", "0e7a3ec5ba68a710",
		},
		{
			both(having(of(0, 0, "\x00"), of(0x1112131415161718, 0x2122232425262728, "seed")), without(5, 1, 5, 2)),
			"42010203040506070802000000000000000000000000000000000100111213141516171821222324252627280473656564020000000000000005000000000000000100000000000000050000000000000002", string(bytes.Repeat([]byte("k"), 100)), "be9c99138f15b036",
		},
	}
}

func unhex(t *testing.T, s string) []byte {
	t.Helper()
	b, err := hex.DecodeString(s)
	if err != nil {
		t.Fatal(err)
	}
	return b
}

// otherTag of a Concrete engine is by the library.
func otherTag(key, msg []byte) []byte {
	h := otherhmac.New(sha256.New, key)
	h.Write(msg)
	return h.Sum(nil)[:8]
}

// terms of keys and texts, in turn.
func terms(texts ...string) []api.Term {
	l := []api.Term{}
	for k := 0; k < len(texts); k += 2 {
		l = append(l, api.Term{Key: []byte(texts[k]), Msg: []byte(texts[k+1])})
	}
	return l
}

// sameEngine, a list that is nil being an empty one?
func sameEngine(a, b api.Engine) bool {
	return a.Kind == b.Kind && slices.EqualFunc(a.Terms, b.Terms, func(x, y api.Term) bool {
		return bytes.Equal(x.Key, y.Key) && bytes.Equal(x.Msg, y.Msg)
	})
}

// deepEngine: a deep copy of an engine.
func deepEngine(g api.Engine) api.Engine {
	out := api.Engine{Kind: g.Kind}
	for _, t := range g.Terms {
		out.Terms = append(out.Terms, api.Term{Key: slices.Clone(t.Key), Msg: slices.Clone(t.Msg)})
	}
	return out
}

// sample of a right bundle with all that it may have.
func sample() api.Bundle {
	return both(having(of(5, 1, "seed"), of(7, 2, "t")), without(5, 0, 9, 9))
}

// rightEngines of both kinds, without terms and with some, one of which is a bundle's bytes.
func rightEngines() []api.Engine {
	return []api.Engine{
		{Kind: api.Concrete},
		{Kind: api.Concrete, Terms: []api.Term{}},
		{Kind: api.Symbolic},
		{Kind: api.Symbolic, Terms: []api.Term{{}}},
		{Kind: api.Symbolic, Terms: terms("key", "text", "", "B", "B", "")},
		{Kind: api.Symbolic, Terms: terms("key", "text", "key", string(otherBytes(sample())), "a", "b")},
	}
}

// wrongEngines: of no kind, a Concrete one with terms, and Symbolic ones with a term that is there twice.
func wrongEngines() []api.Engine {
	text := string(otherBytes(sample()))
	l := []api.Engine{
		{Kind: api.Concrete, Terms: []api.Term{{}}},
		{Kind: api.Concrete, Terms: terms("key", text)},
		{Kind: api.Symbolic, Terms: make([]api.Term, 2)},
		{Kind: api.Symbolic, Terms: terms("key", text, "key", text)},
		{Kind: api.Symbolic, Terms: terms("key", text, "a", "b", "a", "b")},
	}
	for _, kind := range []int{0, 3, -1, math.MaxInt, math.MinInt} {
		l = append(l, api.Engine{Kind: kind}, api.Engine{Kind: kind, Terms: terms("key", text)})
	}
	return l
}

// checkErr: an error is a fault at StepSeal that unwraps to this number, whichever way it is asked; nil, if the number is OK.
func checkErr(t *testing.T, err error, e api.Errno) {
	t.Helper()
	if e == api.OK {
		if err != nil {
			t.Errorf("an error %v, want none", err)
		}
		return
	}
	var f *api.Fault
	if !errors.As(err, &f) || f == nil {
		t.Errorf("%v is no fault, want one of %v", err, e)
		return
	}
	if f.Step != 4 {
		t.Errorf("a fault at %d, want 4", f.Step)
	}
	var code api.Errno
	if !errors.As(err, &code) || code != e || !errors.Is(err, e) {
		t.Errorf("a fault of %v, want %v", code, e)
	}
}

// checkFind: what Find answers, and that what is handed in stays.
func checkFind(t *testing.T, x api.Bundle, ticket uint64, want api.Entry, wantE api.Errno) {
	t.Helper()
	was := deep(x)
	if got, e := bundle.Find(x, ticket); !sameEntry(got, want) || e != wantE {
		t.Errorf("Find(%v, %d) = %v, %v, want %v, %v", x, ticket, got, e, want, wantE)
	}
	if !same(x, was) {
		t.Errorf("Find left %v as %v", was, x)
	}
}

// checkBytes: what Bytes answers, and that what is handed in stays.
func checkBytes(t *testing.T, x api.Bundle, want []byte, wantE api.Errno) {
	t.Helper()
	was := deep(x)
	if got, e := bundle.Bytes(x); !bytes.Equal(got, want) || e != wantE {
		t.Errorf("Bytes(%v) = %v, %v, want %v, %v", x, got, e, want, wantE)
	}
	if !same(x, was) {
		t.Errorf("Bytes left %v as %v", was, x)
	}
}

// checkRead: what Read answers, and that what is handed in stays.
func checkRead(t *testing.T, b []byte, want api.Bundle, wantN int, wantE api.Errno) {
	t.Helper()
	was := slices.Clone(b)
	x, n, e := bundle.Read(b)
	if !same(x, want) || n != wantN || e != wantE {
		t.Fatalf("Read(%v) = %v, %d, %v, want %v, %d, %v", b, x, n, e, want, wantN, wantE)
	}
	if !bytes.Equal(b, was) {
		t.Fatalf("Read left %v as %v", was, b)
	}
}

// checkUnread: nothing is read, but for an error.
func checkUnread(t *testing.T, b []byte, e api.Errno) {
	t.Helper()
	checkRead(t, b, api.Bundle{}, 0, e)
}

// checkReadAlike: what Read answers is what goes through the chapter, too; it tells which error that is.
func checkReadAlike(t *testing.T, b []byte) api.Errno {
	t.Helper()
	want, n, e := otherRead(b)
	checkRead(t, b, want, n, e)
	return e
}

// checkSeal: what Seal answers, and that what is handed in stays.
func checkSeal(t *testing.T, g api.Engine, key []byte, x api.Bundle, wantG api.Engine, want []byte, wantE api.Errno) {
	t.Helper()
	was, keyWas, xWas := deepEngine(g), slices.Clone(key), deep(x)
	got, b, err := bundle.Seal(g, key, x)
	if !sameEngine(got, wantG) || !bytes.Equal(b, want) {
		t.Errorf("Seal(%v, %q, %v) = %v, %v, want %v, %v", g, key, x, got, b, wantG, want)
	}
	checkErr(t, err, wantE)
	if !sameEngine(g, was) || !bytes.Equal(key, keyWas) || !same(x, xWas) {
		t.Errorf("Seal(%v, %q, %v) left %v, %q, %v", was, keyWas, xWas, g, key, x)
	}
}

// checkOpen: what Open answers, and that what is handed in stays.
func checkOpen(t *testing.T, g api.Engine, key, b []byte, want api.Bundle, wantE api.Errno) {
	t.Helper()
	was, keyWas, bWas := deepEngine(g), slices.Clone(key), slices.Clone(b)
	x, err := bundle.Open(g, key, b)
	if !same(x, want) {
		t.Errorf("Open(%v, %q, %v) = %v, want %v", g, key, b, x, want)
	}
	checkErr(t, err, wantE)
	if !sameEngine(g, was) || !bytes.Equal(key, keyWas) || !bytes.Equal(b, bWas) {
		t.Errorf("Open(%v, %q, %v) left %v, %q, %v", was, keyWas, bWas, g, key, b)
	}
	if t.Failed() {
		t.Fatalf("Open(%v, %q, %v) isn't as it should be", was, keyWas, bWas)
	}
}

// checkClosed: nothing is opened, but for a fault.
func checkClosed(t *testing.T, g api.Engine, key, b []byte, e api.Errno) {
	t.Helper()
	checkOpen(t, g, key, b, api.Bundle{}, e)
}

// sealed bytes, and the engine behind them.
func sealed(t *testing.T, g api.Engine, key []byte, x api.Bundle) (api.Engine, []byte) {
	t.Helper()
	behind, b, err := bundle.Seal(g, key, x)
	checkErr(t, err, api.OK)
	return behind, b
}

// tagged is any text with its tag behind it, and the engine behind that.
func tagged(t *testing.T, g api.Engine, key, text []byte) (api.Engine, []byte) {
	t.Helper()
	behind, tag, e := mac.Tag(g, key, text)
	if e != api.OK {
		t.Fatalf("Tag(%v, %q, %v): %v", g, key, text, e)
	}
	return behind, slices.Concat(text, tag)
}

// P16.1

func TestRight(t *testing.T) {
	for _, x := range rightOnes() {
		if !bundle.Right(x) {
			t.Errorf("Right(%v) = false", x)
		}
	}
	for _, x := range wrongOnes() {
		if bundle.Right(x) {
			t.Errorf("Right(%v) = true", x)
		}
	}
}

// TestRightOfEachSeed: by its length alone, in an entry ahead of others, between, and behind.
func TestRightOfEachSeed(t *testing.T) {
	for n := range 600 {
		want := n >= 1 && n <= 32
		for k := range 3 {
			x := having(of(1, 1, "a"), of(2, 1, "b"), of(3, 1, "c"))
			x.Entries[k].Seed = make([]byte, n, 700)
			if bundle.Right(x) != want {
				t.Errorf("Right with a seed of %d bytes at %d = %v", n, k, !want)
			}
		}
	}
}

// TestRightOfEachLength: so many entries, and so many gone; spare room behind them doesn't count.
func TestRightOfEachLength(t *testing.T) {
	r := rand.New(rand.NewPCG(506, 507))
	room := rightOne(r, 300, 300)
	for n := range 300 {
		for _, other := range []int{0, 1, 63, 64, 65} {
			for _, x := range []api.Bundle{{Entries: room.Entries[:n], Gone: room.Gone[:other]}, {Entries: room.Entries[:other], Gone: room.Gone[:n]}} {
				if want := n <= 64 && other <= 64; bundle.Right(x) != want {
					t.Errorf("Right of %d entries and %d gone = %v", len(x.Entries), len(x.Gone), !want)
				}
			}
		}
	}
}

// TestRightOfSmallOnes: all rows of at most four tickets of five.
func TestRightOfSmallOnes(t *testing.T) {
	rows := []api.Bundle{{}}
	for len(rows) > 0 {
		x := rows[0]
		rows = rows[1:]
		if want := otherRight(x); bundle.Right(x) != want {
			t.Errorf("Right(%v) = %v", x, !want)
		}
		if len(x.Entries) == 4 {
			continue
		}
		for _, ticket := range []uint64{0, 1, 2, 1 << 63, math.MaxUint64} {
			e := of(ticket, uint64(9-len(x.Entries)), "seed")
			rows = append(rows, api.Bundle{Entries: append(slices.Clone(x.Entries), e)})
		}
	}
}

// TestFind: in any bundle, right or not.
func TestFind(t *testing.T) {
	r := rand.New(rand.NewPCG(508, 509))
	for _, x := range append(rightOnes(), wrongOnes()...) {
		first := map[uint64]api.Entry{}
		asked := []uint64{0, 1, 5, 1 << 63, math.MaxUint64, x.Version, number(r)}
		for _, e := range x.Entries {
			if _, ok := first[e.Ticket]; !ok {
				first[e.Ticket] = e
			}
			asked = append(asked, e.Ticket, e.Epoch, e.Ticket+1, e.Ticket-1, e.Ticket^1<<63, e.Ticket^1<<32)
		}
		for _, g := range x.Gone {
			asked = append(asked, g.Ticket)
		}
		for _, ticket := range asked {
			if e, ok := first[ticket]; ok {
				checkFind(t, x, ticket, e, api.OK)
			} else {
				checkFind(t, x, ticket, api.Entry{}, api.ErrNone)
			}
		}
	}
}

// TestFindTheFirst: of entries of one ticket, and in no order.
func TestFindTheFirst(t *testing.T) {
	x := having(of(7, 1, "a"), of(5, 2, ""), of(7, 3, "b"), of(5, 4, "c"), of(0, 5, "d"))
	checkFind(t, x, 7, of(7, 1, "a"), api.OK)
	checkFind(t, x, 5, of(5, 2, ""), api.OK)
	checkFind(t, x, 0, of(0, 5, "d"), api.OK)
	checkFind(t, x, 1, api.Entry{}, api.ErrNone)
	x.Entries = x.Entries[1:4]
	checkFind(t, x, 7, of(7, 3, "b"), api.OK)
	checkFind(t, x, 0, api.Entry{}, api.ErrNone)
	checkFind(t, api.Bundle{}, 0, api.Entry{}, api.ErrNone)
}

func TestBytesExamples(t *testing.T) {
	for _, x := range examples() {
		checkBytes(t, x.x, unhex(t, x.text), api.OK)
	}
	// The chapter's example.
	if b, _ := bundle.Bytes(api.Bundle{}); len(b) != 11 {
		t.Errorf("an empty bundle: %d bytes", len(b))
	}
}

func TestBytes(t *testing.T) {
	for _, x := range rightOnes() {
		checkBytes(t, x, otherBytes(x), api.OK)
	}
	for _, x := range wrongOnes() {
		checkBytes(t, x, nil, api.ErrArg)
	}
	r := rand.New(rand.NewPCG(510, 511))
	for range 1000 {
		x := rightOne(r, r.IntN(6), r.IntN(6))
		checkBytes(t, x, otherBytes(x), api.OK)
	}
}

// TestBytesOfEachNumber: each bit of each number, and numbers with all bits to one.
func TestBytesOfEachNumber(t *testing.T) {
	for k := range 64 {
		for _, v := range []uint64{1 << k, 1<<k - 1, -(1 << k)} {
			for _, x := range []api.Bundle{{Version: v}, having(of(v, 0, "a")), having(of(0, v, "a")), having(of(v/2, ^v, "a"), of(v/2+1, v, "b")), without(v, ^v), without(v/2, v, v/2+1, ^v)} {
				checkBytes(t, x, otherBytes(x), api.OK)
			}
		}
	}
}

// P16.2

func TestReadExamples(t *testing.T) {
	for _, x := range examples() {
		b := unhex(t, x.text)
		checkRead(t, b, x.x, len(b), api.OK)
		checkRead(t, append(b, 0), x.x, len(b), api.OK)
		checkRead(t, slices.Concat(b, b), x.x, len(b), api.OK)
	}
	checkUnread(t, nil, api.ErrShort)
	checkUnread(t, []byte{}, api.ErrShort)
	checkUnread(t, []byte{66}, api.ErrShort)
	checkUnread(t, []byte{65}, api.ErrForm)
}

// TestReadOfEachLength: all beginnings of a bundle's bytes, and whatever is behind them.
func TestReadOfEachLength(t *testing.T) {
	r := rand.New(rand.NewPCG(512, 513))
	for k, x := range rightOnes() {
		b := otherBytes(x)
		room := slices.Concat(b, b)
		for n := 0; n < len(b); n += 1 + k%7 {
			checkUnread(t, b[:n], api.ErrShort)
			checkUnread(t, room[:n:n], api.ErrShort)
		}
		checkUnread(t, b[:len(b)-1], api.ErrShort)
		for _, more := range []int{0, 1, 2, 8, 16, 17, 256, 65536} {
			for _, rest := range [][]byte{make([]byte, more), bytes.Repeat([]byte{66}, more), some(r, more)} {
				checkRead(t, slices.Concat(b, rest), x, len(b), api.OK)
			}
		}
	}
}

// TestReadOfEachMark: any first byte, of bytes of any length; that it is another comes ahead of all that is wrong behind it.
func TestReadOfEachMark(t *testing.T) {
	for _, x := range append(wrongInOrder(), sample(), api.Bundle{}, having(of(5, 1, ""))) {
		for c := range 256 {
			b := otherBytes(x)
			b[0] = byte(c)
			if c == 66 {
				checkReadAlike(t, b)
				continue
			}
			for _, n := range []int{1, 2, 8, 9, 10, 11, len(b) - 1, len(b)} {
				checkUnread(t, b[:min(n, len(b))], api.ErrForm)
			}
		}
	}
}

// TestReadOfEachNumberOfEntries: any byte that says how many there are, with fewer behind it, just so many, and more.
func TestReadOfEachNumberOfEntries(t *testing.T) {
	r := rand.New(rand.NewPCG(514, 515))
	room := rightOne(r, 300, 0)
	for many := range 256 {
		for _, has := range []int{0, 1, 2, many - 1, many, 63, 64, 65, 300} {
			if has < 0 {
				continue
			}
			x := api.Bundle{Version: 9, Entries: room.Entries[:has]}
			b := otherBytes(x)
			b[9] = byte(many)
			switch {
			case many > 64:
				checkUnread(t, b, api.ErrForm)
				checkUnread(t, b[:10], api.ErrForm)
			case many > has:
				// But one byte is behind the entries that are there.
				checkUnread(t, b, api.ErrShort)
			case many == has:
				checkRead(t, b, x, len(b), api.OK)
			}
			checkReadAlike(t, b)
			checkReadAlike(t, append(b, make([]byte, 100)...))
		}
		// What is ahead of it may be missing, too.
		checkUnread(t, []byte{66, 0, 0, 0, 0, 0, 0, 0, byte(many)}, api.ErrShort)
	}
}

// TestReadOfEachSize: any byte that says how many a seed has, with none behind it, fewer, just so many and more.
func TestReadOfEachSize(t *testing.T) {
	for many := range 256 {
		for k := range 3 {
			for _, has := range []int{0, 1, many - 1, many, many + 1, 31, 32, 33, 300} {
				if has < 0 {
					continue
				}
				x := having(of(1, 1, "a"), of(2, 2, "b"), of(3, 3, "c"))
				x.Entries = x.Entries[:k+1]
				x.Entries[k].Seed = bytes.Repeat([]byte{200}, has)
				// Nothing is behind the seed, not even how many are gone.
				b := otherBytes(x)
				b = b[:len(b)-1]
				b[len(b)-has-1] = byte(many)
				switch {
				case many == 0 || many > 32:
					checkUnread(t, b, api.ErrForm)
				case has > many:
					// What is left of it says that 200 are gone.
					checkUnread(t, b, api.ErrForm)
				case has < many:
					checkUnread(t, b, api.ErrShort)
				default:
					checkUnread(t, b, api.ErrShort)
					checkRead(t, append(b, 0), x, len(b)+1, api.OK)
				}
			}
		}
	}
}

// TestReadOfWrongGone: gone.Read's errors; they come ahead of the order of the tickets.
func TestReadOfWrongGone(t *testing.T) {
	for _, x := range []api.Bundle{{}, sample(), having(of(5, 1, "a"), of(5, 2, "b")), having(of(6, 1, "a"), of(5, 2, "b"))} {
		x.Gone = nil
		b := otherBytes(x)
		b = b[:len(b)-1]
		twice := without(5, 1, 5, 1)
		falls := without(5, 2, 5, 1)
		for _, c := range []struct {
			rest []byte
			e    api.Errno
		}{
			{nil, api.ErrShort},
			{[]byte{65}, api.ErrForm},
			{[]byte{255}, api.ErrForm},
			{[]byte{1}, api.ErrShort},
			{make([]byte, 17), api.OK},
			{append([]byte{1}, make([]byte, 15)...), api.ErrShort},
			{append([]byte{64}, make([]byte, 1023)...), api.ErrShort},
			{append([]byte{64}, make([]byte, 1024)...), api.ErrForm},
			{append([]byte{65}, make([]byte, 1040)...), api.ErrForm},
			{otherBytes(twice)[10:], api.ErrForm},
			{otherBytes(falls)[10:], api.ErrForm},
			{otherBytes(falls)[10:42], api.ErrShort},
			{[]byte{0}, api.OK},
		} {
			all := slices.Concat(b, c.rest)
			if c.e != api.OK {
				checkUnread(t, all, c.e)
			} else if otherRight(x) {
				checkRead(t, all, x, len(b)+1, api.OK)
			} else {
				checkUnread(t, all, api.ErrForm)
			}
		}
	}
}

// TestReadOfWrongOnes: the bytes that bundles which aren't right would have. In a wrong order, ErrForm comes behind all that is missing.
func TestReadOfWrongOnes(t *testing.T) {
	for _, x := range wrongInOrder() {
		b := otherBytes(x)
		checkUnread(t, b, api.ErrForm)
		checkUnread(t, append(b, 1, 2, 3), api.ErrForm)
		checkUnread(t, b[:len(b)-1], api.ErrShort)
	}
	for _, x := range wrongOnes() {
		checkReadAlike(t, otherBytes(x))
	}
}

// TestReadOfTheFirstWrong: of two things that are wrong, the one that comes first from the first byte on.
func TestReadOfTheFirstWrong(t *testing.T) {
	falls := having(of(6, 1, "a"), of(5, 2, "b"))
	b := otherBytes(falls)
	none := slices.Clone(b)
	none[10+18+16] = 0
	much := slices.Clone(b)
	much[10+18+16] = 33
	many := slices.Clone(b)
	many[9] = 3
	for _, x := range []struct {
		b    []byte
		want api.Errno
	}{
		{none[:10+18+16], api.ErrShort},
		{none[:10+18+17], api.ErrForm},
		{much[:10+18+17], api.ErrForm},
		{b[:10+18+17], api.ErrShort},
		{b[:10+18+18], api.ErrShort},
		{many, api.ErrShort},
		{append(many, 255), api.ErrShort},
		{append(many, make([]byte, 16)...), api.ErrForm},
		{slices.Concat(b[:len(b)-1], []byte{1}), api.ErrShort},
		{slices.Concat(b[:len(b)-1], []byte{66}), api.ErrForm},
	} {
		checkUnread(t, x.b, x.want)
	}
}

// TestReadOfShortOnes: up to three bytes of a few kinds behind a mark and a Version.
func TestReadOfShortOnes(t *testing.T) {
	list := [][]byte{{66, 0, 0, 0, 0, 0, 0, 0, 3}}
	for range 4 {
		var next [][]byte
		for _, b := range list {
			checkReadAlike(t, b)
			for _, c := range []byte{0, 1, 2, 64, 65, 255} {
				next = append(next, slices.Concat(b, []byte{c}))
			}
		}
		list = next
	}
}

// TestReadAsTheChapterSays: bundles' bytes with a place changed, put in or left away, and bytes by chance.
func TestReadAsTheChapterSays(t *testing.T) {
	r := rand.New(rand.NewPCG(516, 517))
	codes := map[api.Errno]int{}
	for range 30000 {
		b := otherBytes(rightOne(r, r.IntN(5), r.IntN(4)))
		at := r.IntN(len(b))
		switch r.IntN(6) {
		case 0:
			b[at] = byte(r.Uint32())
		case 1:
			b = slices.Delete(b, at, at+1)
		case 2:
			b = slices.Insert(b, at, byte(r.Uint32()))
		case 3:
			b = append([]byte{66}, some(r, r.IntN(70))...)
		case 4:
			b[9] = byte(r.IntN(7))
		}
		codes[checkReadAlike(t, b)]++
	}
	for _, e := range []api.Errno{api.OK, api.ErrShort, api.ErrForm} {
		if codes[e] < 500 {
			t.Errorf("%v was told only %d times", e, codes[e])
		}
	}
}

// P16.3

func TestSealExamples(t *testing.T) {
	for _, x := range examples() {
		b := unhex(t, x.text)
		g := api.Engine{Kind: api.Concrete}
		all := slices.Concat(b, unhex(t, x.tag))
		checkSeal(t, g, []byte(x.key), x.x, g, all, api.OK)
		checkOpen(t, g, []byte(x.key), all, x.x, api.OK)
		behind := api.Engine{Kind: api.Symbolic, Terms: terms(x.key, string(b))}
		all = slices.Concat(b, word.Put(1))
		checkSeal(t, api.Engine{Kind: api.Symbolic}, []byte(x.key), x.x, behind, all, api.OK)
		// Sealed again by the engine behind it, it has its tag already.
		checkSeal(t, behind, []byte(x.key), x.x, behind, all, api.OK)
		checkOpen(t, behind, []byte(x.key), all, x.x, api.OK)
	}
}

// TestSealByEachEngine: the bytes are those of Bytes, and the tag behind them, and the engine, those of layer 6.
func TestSealByEachEngine(t *testing.T) {
	r := rand.New(rand.NewPCG(518, 519))
	for _, g := range rightEngines() {
		for _, key := range [][]byte{nil, []byte("key"), []byte("B"), make([]byte, 64), some(r, 65), some(r, 300)} {
			for _, x := range append([]api.Bundle{{}, sample(), rightOne(r, 64, 64)}, rightOne(r, r.IntN(64), r.IntN(64))) {
				behind, want := tagged(t, g, key, otherBytes(x))
				checkSeal(t, g, key, x, behind, want, api.OK)
				checkOpen(t, behind, key, want, x, api.OK)
			}
		}
	}
}

func TestSealOfWrongOnes(t *testing.T) {
	wrong := wrongOnes()
	for _, g := range append(rightEngines(), wrongEngines()...) {
		for k, x := range wrong {
			checkSeal(t, g, [][]byte{nil, []byte("key")}[k%2], x, g, nil, api.ErrArg)
		}
	}
}

func TestSealByWrongEngines(t *testing.T) {
	for _, g := range wrongEngines() {
		for _, x := range []api.Bundle{{}, sample(), having(of(5, 1, "s"))} {
			for _, key := range [][]byte{nil, []byte("key"), []byte("new")} {
				checkSeal(t, g, key, x, g, nil, api.ErrArg)
			}
		}
	}
}

// TestOpenOfWhatCannotBeRead: Read's errors come ahead of the tag, though that fits.
func TestOpenOfWhatCannotBeRead(t *testing.T) {
	key := []byte("key")
	texts := [][]byte{nil, {66}, {65}, otherBytes(sample())[1:], otherBytes(having(of(5, 1, ""))), otherBytes(without(1, 1))[:18]}
	for _, x := range wrongInOrder() {
		texts = append(texts, otherBytes(x))
	}
	for _, text := range texts {
		for _, g := range rightEngines() {
			behind, b := tagged(t, g, key, text)
			_, _, e := otherRead(b)
			if e == api.OK {
				t.Fatalf("%v can be read", b)
			}
			checkClosed(t, behind, key, b, e)
			checkClosed(t, behind, []byte("other"), b, e)
			checkClosed(t, api.Engine{}, key, b, e)
		}
	}
	for c := range 256 {
		if c == 66 {
			continue
		}
		text := otherBytes(sample())
		text[0] = byte(c)
		checkClosed(t, api.Engine{Kind: api.Concrete}, key, slices.Concat(text, otherTag(key, text)), api.ErrForm)
	}
}

// TestOpenOfEachLength: all beginnings of sealed bytes, and some bytes more.
func TestOpenOfEachLength(t *testing.T) {
	r := rand.New(rand.NewPCG(520, 521))
	key := []byte("key")
	for _, x := range []api.Bundle{{}, sample(), having(of(5, 1, "s")), without(5, 1), rightOne(r, 3, 2)} {
		for _, kind := range []int{api.Concrete, api.Symbolic} {
			g, b := sealed(t, api.Engine{Kind: kind}, key, x)
			room := slices.Concat(b, b)
			for k := range b {
				checkClosed(t, g, key, b[:k], api.ErrShort)
				checkClosed(t, g, key, room[:k], api.ErrShort)
				checkClosed(t, api.Engine{}, key, b[:k], api.ErrShort)
			}
			checkOpen(t, g, key, room[:len(b)], x, api.OK)
			for _, more := range []int{1, 2, 7, 8, 9, 16, 256, 65536} {
				for _, rest := range [][]byte{make([]byte, more), some(r, more)} {
					checkClosed(t, g, key, slices.Concat(b, rest), api.ErrLong)
					checkClosed(t, api.Engine{}, key, slices.Concat(b, rest), api.ErrLong)
				}
			}
			checkClosed(t, g, key, room, api.ErrLong)
		}
	}
}

// TestOpenOfATagThatDoesNotFit: another key's, another engine's, another text's.
func TestOpenOfATagThatDoesNotFit(t *testing.T) {
	x, key := sample(), []byte("key")
	text := otherBytes(x)
	concrete, symbolic := api.Engine{Kind: api.Concrete}, api.Engine{Kind: api.Symbolic}
	for _, g := range []api.Engine{concrete, symbolic, {Kind: api.Symbolic, Terms: terms("", "text")}} {
		behind, b := sealed(t, g, key, x)
		for _, other := range [][]byte{nil, []byte("ke"), []byte("key "), []byte("Key"), []byte("keykey"), text, b} {
			checkClosed(t, behind, other, b, api.ErrSum)
		}
	}
	symbolicBehind, bySymbolic := sealed(t, symbolic, key, x)
	_, byConcrete := sealed(t, concrete, key, x)
	checkClosed(t, concrete, key, bySymbolic, api.ErrSum)
	checkClosed(t, symbolicBehind, key, byConcrete, api.ErrSum)
	// An elder engine hasn't made the tag.
	checkClosed(t, symbolic, key, bySymbolic, api.ErrSum)
	behind, other := sealed(t, symbolicBehind, key, without(1, 1))
	checkOpen(t, behind, key, bySymbolic, x, api.OK)
	checkClosed(t, behind, key, slices.Concat(text, other[len(other)-8:]), api.ErrSum)
	for _, v := range []uint64{0, 2, 3, 255, 257, 1 << 32, 1<<32 + 1, 1 << 63, math.MaxUint64} {
		checkClosed(t, behind, key, slices.Concat(text, word.Put(v)), api.ErrSum)
	}
	// Tags of parts of the bytes, of those with more behind them, and of none.
	for _, part := range [][]byte{nil, text[1:], text[:9], text[:len(text)-1], append(slices.Clone(text), 0), bySymbolic} {
		checkClosed(t, concrete, key, slices.Concat(text, otherTag(key, part)), api.ErrSum)
		_, partTagged := tagged(t, behind, key, part)
		checkClosed(t, behind, key, slices.Concat(text, partTagged[len(part):]), api.ErrSum)
	}
}

// TestOpenByWrongEngines: their tags don't fit, though the bytes were sealed so.
func TestOpenByWrongEngines(t *testing.T) {
	key, text := []byte("key"), otherBytes(sample())
	for _, g := range wrongEngines() {
		for _, tag := range [][]byte{otherTag(key, text), word.Put(0), word.Put(1), word.Put(2), word.Put(3)} {
			checkClosed(t, g, key, slices.Concat(text, tag), api.ErrSum)
		}
	}
}

// P16.4

// TestBack: a bundle is read as it was, and what is read has just the bytes that were read.
func TestBack(t *testing.T) {
	r := rand.New(rand.NewPCG(522, 523))
	for _, x := range rightOnes() {
		b, e := bundle.Bytes(x)
		if e != api.OK {
			t.Fatalf("Bytes(%v): %v", x, e)
		}
		checkRead(t, b, x, len(b), api.OK)
		checkRead(t, append(b, some(r, 20)...), x, len(b), api.OK)
	}
	read := 0
	for range 20000 {
		b := otherBytes(rightOne(r, r.IntN(4), r.IntN(3)))
		for range r.IntN(3) {
			b[1+r.IntN(len(b)-1)] = byte(r.IntN(40))
		}
		x, n, e := bundle.Read(b)
		if e != api.OK {
			continue
		}
		read++
		if !bundle.Right(x) {
			t.Fatalf("%v was read, and isn't right", x)
		}
		checkBytes(t, x, b[:n], api.OK)
	}
	if read < 1000 {
		t.Errorf("only %d were read", read)
	}
}

// TestOpenedAsItWas: by the engine behind it, and by each that is behind others, too.
func TestOpenedAsItWas(t *testing.T) {
	r := rand.New(rand.NewPCG(524, 525))
	for _, kind := range []int{api.Concrete, api.Symbolic} {
		type one struct {
			x      api.Bundle
			key, b []byte
		}
		var all []one
		g, _ := mac.New(kind)
		for range 30 {
			x := one{x: rightOne(r, r.IntN(6), r.IntN(6)), key: some(r, r.IntN(4))}
			ahead := g
			g, x.b = sealed(t, g, x.key, x.x)
			if kind == api.Symbolic {
				checkClosed(t, ahead, x.key, x.b, api.ErrSum)
			}
			all = append(all, x)
			for _, y := range all {
				checkOpen(t, g, y.key, y.b, y.x, api.OK)
			}
		}
		if !mac.Right(g) {
			t.Errorf("the engine behind all of them isn't right: %v", g)
		}
	}
	for _, x := range rightOnes() {
		for _, kind := range []int{api.Concrete, api.Symbolic} {
			g, b := sealed(t, api.Engine{Kind: kind}, []byte("key"), x)
			checkOpen(t, g, []byte("key"), b, x, api.OK)
		}
	}
}

// TestTurned: each place of sealed bytes to any other byte, and nothing is opened.
func TestTurned(t *testing.T) {
	key := []byte("key")
	for _, kind := range []int{api.Symbolic, api.Concrete} {
		// The engine has some tags already, so that one turned may be another's.
		g := api.Engine{Kind: kind}
		for _, x := range []api.Bundle{{}, without(1, 1), having(of(5, 1, "s"))} {
			g, _ = sealed(t, g, key, x)
		}
		g, b := sealed(t, g, key, sample())
		for k := range b {
			for turn := 1; turn < 256; turn++ {
				x := slices.Clone(b)
				x[k] ^= byte(turn)
				if got, err := bundle.Open(g, key, x); err == nil || !same(got, api.Bundle{}) {
					t.Fatalf("turned at %d, %v is opened: %v", k, x, got)
				}
			}
		}
	}
}

// The rules that hold everywhere.

// spoilBytes in all their room.
func spoilBytes(b []byte) {
	b = b[:cap(b)]
	for k := range b {
		b[k] ^= 85
	}
}

// spoil all of a bundle's memory, its spare room, too.
func spoil(x api.Bundle) {
	entries := x.Entries[:cap(x.Entries)]
	for k, e := range entries {
		spoilBytes(e.Seed)
		entries[k] = of(77, 77, "spoilt")
	}
	l := x.Gone[:cap(x.Gone)]
	for k := range l {
		l[k] = api.Gone{Ticket: 77, Epoch: 77}
	}
}

// spoilEngine: all of an engine's memory, its spare room, too.
func spoilEngine(g api.Engine) {
	l := g.Terms[:cap(g.Terms)]
	for k, x := range l {
		spoilBytes(x.Key)
		spoilBytes(x.Msg)
		l[k] = api.Term{Key: []byte("spoilt"), Msg: []byte("spoilt")}
	}
}

// roomy copy of a bundle, with something in all spare room; whole shows it, too.
func roomy(x api.Bundle) (part, whole api.Bundle) {
	part, whole = deep(x), deep(x)
	for k, e := range part.Entries {
		seed := slices.Concat(e.Seed, []byte("behind"))
		part.Entries[k].Seed, whole.Entries[k].Seed = seed[:len(e.Seed)], seed
	}
	part.Entries = append(part.Entries, of(91, 92, "behind"))[:len(x.Entries)]
	part.Gone = append(part.Gone, api.Gone{Ticket: 91, Epoch: 92})
	whole.Entries, whole.Gone = append(whole.Entries, part.Entries[:len(x.Entries)+1][len(x.Entries)]), part.Gone
	part.Gone = part.Gone[:len(x.Gone)]
	return part, whole
}

func TestFoundIsNewMemory(t *testing.T) {
	x := having(of(5, 1, "seed"), of(7, 2, "t"), of(7, 3, ""))
	part, whole := roomy(x)
	was := deep(whole)
	one, _ := bundle.Find(part, 5)
	other, _ := bundle.Find(part, 5)
	spoilBytes(one.Seed)
	if !same(whole, was) || string(other.Seed) != "seed" {
		t.Errorf("what was found shares memory: %v, %v", whole, other)
	}
	spoil(part)
	if !sameEntry(other, of(5, 1, "seed")) {
		t.Errorf("what was found came as %v", other)
	}
}

// TestSealIsNewMemory: spoiling what was handed in leaves an answer, and the other way; neither has the other's spare room.
func TestSealIsNewMemory(t *testing.T) {
	for _, engine := range append(rightEngines(), wrongEngines()...) {
		for _, x := range []api.Bundle{{}, sample(), having(of(5, 1, "")), without(1, 1, 1, 1)} {
			part, whole := roomy(x)
			was := deep(whole)
			key, g := []byte("key"), deepEngine(engine)
			want, wantB, _ := bundle.Seal(g, key, part)
			want, wantB = deepEngine(want), slices.Clone(wantB)
			got, b, _ := bundle.Seal(g, key, part)
			text, _ := bundle.Bytes(part)
			spoilEngine(got)
			spoilBytes(text)
			if !sameEngine(g, engine) || !same(whole, was) || string(key) != "key" || !bytes.Equal(b, wantB) {
				t.Errorf("Seal(%v, .., %v) shares memory: %v, %v, %q, %v", engine, x, g, whole, key, b)
			}
			got, b, _ = bundle.Seal(g, key, part)
			spoilEngine(g)
			spoil(part)
			spoilBytes(key)
			if !sameEngine(got, want) || !bytes.Equal(b, wantB) {
				t.Errorf("Seal(%v, .., %v) keeps what was handed in: %v, %v", engine, x, got, b)
			}
			spoilBytes(b)
			if !sameEngine(got, want) {
				t.Errorf("the sealed bytes of %v share memory with the engine behind them: %v", x, got)
			}
		}
	}
}

func TestReadAndOpenedAreNewMemory(t *testing.T) {
	key, rest := []byte("key"), bytes.Repeat([]byte{111}, 40)
	read := func(_ api.Engine, b []byte) api.Bundle {
		x, _, _ := bundle.Read(b)
		return x
	}
	open := func(g api.Engine, b []byte) api.Bundle {
		x, _ := bundle.Open(g, key, b)
		return x
	}
	for _, g := range rightEngines() {
		for _, call := range []func(api.Engine, []byte) api.Bundle{read, open} {
			behind, b := sealed(t, g, key, sample())
			was, engineWas := slices.Clone(b), deepEngine(behind)
			room := slices.Concat(b, rest)
			one, other := call(behind, room[:len(b)]), call(behind, room[:len(b)])
			// No seed stands in the spare room of the one ahead, either.
			_ = append(one.Entries[0].Seed, bytes.Repeat([]byte("on"), 100)...)
			if !sameEntry(one.Entries[1], sample().Entries[1]) {
				t.Errorf("the seeds of an answer share memory: %v", one)
			}
			spoil(one)
			if !bytes.Equal(room, slices.Concat(was, rest)) || !sameEngine(behind, engineWas) {
				t.Errorf("what was answered shares memory with %v, %v", room, behind)
			}
			spoilBytes(room)
			spoilEngine(behind)
			if !same(other, sample()) {
				t.Errorf("what was answered came as %v", other)
			}
		}
	}
}

func TestFaultsAreNewMemory(t *testing.T) {
	concrete, text := api.Engine{Kind: api.Concrete}, otherBytes(sample())
	for _, call := range []func() error{
		func() error { _, _, err := bundle.Seal(concrete, nil, having(of(5, 1, ""))); return err },
		func() error { _, _, err := bundle.Seal(api.Engine{}, nil, sample()); return err },
		func() error { _, err := bundle.Open(concrete, nil, nil); return err },
		func() error { _, err := bundle.Open(concrete, nil, []byte{65}); return err },
		func() error { _, err := bundle.Open(concrete, nil, text); return err },
		func() error { _, err := bundle.Open(concrete, nil, slices.Concat(text, make([]byte, 8))); return err },
		func() error { _, err := bundle.Open(concrete, nil, slices.Concat(text, make([]byte, 9))); return err },
	} {
		var one, other *api.Fault
		if !errors.As(call(), &one) || !errors.As(call(), &other) {
			t.Fatal("no fault")
		}
		was := *other
		one.Step, one.Err = 77, api.ErrMost
		if *other != was {
			t.Errorf("two faults share memory: %v", other)
		}
	}
}
