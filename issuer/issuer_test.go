package issuer_test

import (
	"bytes"
	"encoding/hex"
	"math"
	"math/rand/v2"
	"slices"
	"testing"

	"wristband/api"
	"wristband/bundle"
	"wristband/gone"
	"wristband/issuer"
	"wristband/mac"
	"wristband/record"
)

const end = math.MaxUint64

// some bytes by chance.
func some(r *rand.Rand, n int) []byte {
	b := make([]byte, n)
	for k := range b {
		b[k] = byte(r.Uint32())
	}
	return b
}

// number by chance, of any length.
func number(r *rand.Rand) uint64 {
	return r.Uint64() >> r.IntN(65)
}

// of a ticket, an epoch, a device and a seed.
func of(ticket, epoch, device uint64, seed string) api.Holder {
	return api.Holder{Ticket: ticket, Epoch: epoch, Device: device, Seed: []byte(seed)}
}

// having holders: an issuer of a Version that has unlike bytes, without anything gone.
func having(holders ...api.Holder) api.Issuer {
	return api.Issuer{Key: []byte("key"), Version: 0x0102030405060708, Holders: holders}
}

// without holders, but for what is gone: tickets and epochs, in turn.
func without(numbers ...uint64) api.Issuer {
	s := api.Issuer{Key: []byte("key"), Version: 3}
	for k := 0; k < len(numbers); k += 2 {
		s.Gone = append(s.Gone, api.Gone{Ticket: numbers[k], Epoch: numbers[k+1]})
	}
	return s
}

// both the one's holders, and what is gone of the other.
func both(one, other api.Issuer) api.Issuer {
	one.Gone = other.Gone
	return one
}

// rising numbers by chance, none twice.
func rising(r *rand.Rand, n int) []uint64 {
	var l []uint64
	for len(l) < n {
		l = append(l, number(r))
		slices.Sort(l)
		l = slices.Compact(l)
	}
	return l
}

// rightOne by chance, of so many holders, and so many gone.
func rightOne(r *rand.Rand, holders, revoked int) api.Issuer {
	s := api.Issuer{Key: some(r, r.IntN(70)), Version: number(r)}
	for _, ticket := range rising(r, holders) {
		s.Holders = append(s.Holders, api.Holder{Ticket: ticket, Epoch: max(1, number(r)), Device: number(r), Seed: some(r, 1+r.IntN(32))})
	}
	for _, ticket := range rising(r, revoked) {
		s.Gone = append(s.Gone, api.Gone{Ticket: ticket, Epoch: number(r)})
	}
	return s
}

// row of so many holders, their tickets the odd numbers from 1 on.
func row(n int) api.Issuer {
	s := having()
	for k := range n {
		s.Holders = append(s.Holders, of(uint64(2*k+1), uint64(k+1), uint64(k), "seed"))
	}
	return s
}

// full list of what is gone: each second epoch of the ticket 5, from the second on.
func full() []api.Gone {
	var l []api.Gone
	for k := range 64 {
		l = append(l, api.Gone{Ticket: 5, Epoch: uint64(2*k + 2)})
	}
	return l
}

// rightOnes: of all numbers of holders and gone there may be, seeds of each length, and numbers at their ends.
func rightOnes() []api.Issuer {
	l := []api.Issuer{
		{}, {Holders: []api.Holder{}, Gone: []api.Gone{}}, {Version: end}, {Key: make([]byte, 1000)},
		having(of(0, 1, 0, "\x00")), having(of(end, end, end, "seed")), having(of(5, 1, 2, "s")),
		having(of(0, end, 1, "a"), of(1, 1, 1, "b")), having(of(1, 5, 3, "a"), of(2, 5, 3, "a"), of(3, 5, 3, "a")),
		having(of(255, 9, 1, "a"), of(256, 1, 0, "b")), having(of(1, 1, 3, "a"), of(1<<63, 1, 2, "b"), of(end, 1, 1, "c")),
		having(of(1<<63-1, 2, 0, "a"), of(1<<63, 1, 0, "b")), having(of(1<<32-1, 2, 0, "a"), of(1<<32, 1, 0, "b")),
		without(5, 1), without(5, 1, 5, 2, 6, 0), without(0, 0, end, end),
		both(having(of(5, 1, 2, "s")), without(5, 1)), both(having(of(5, 2, 2, "s"), of(7, 1, 3, "t")), without(5, 1, 6, 3, 9, 9)),
	}
	for n := 1; n <= 32; n++ {
		l = append(l, having(of(5, 1, 2, string(bytes.Repeat([]byte{65}, n))), of(6, 1, 2, string(make([]byte, 33-n)))))
	}
	r := rand.New(rand.NewPCG(700, 701))
	for n := range 65 {
		l = append(l, rightOne(r, n, 0), rightOne(r, 0, n), rightOne(r, n, 64-n))
	}
	return append(l, rightOne(r, 64, 64), row(64))
}

// wrongSizes of a seed, also by so many that a byte wouldn't tell.
func wrongSizes() []int {
	return []int{0, 33, 34, 64, 127, 128, 255, 256, 257, 288, 289, 65536, 65537}
}

// wrongInOrder: the tickets of holders, or what is gone, don't rise.
func wrongInOrder() []api.Issuer {
	l := []api.Issuer{
		having(of(0, 1, 0, "a"), of(0, 1, 0, "a")), having(of(5, 1, 0, "a"), of(5, 2, 0, "b")), having(of(6, 1, 0, "a"), of(5, 2, 0, "b")),
		having(of(1<<63, 1, 0, "a"), of(1, 1, 0, "b")), having(of(256, 1, 0, "a"), of(255, 1, 0, "b")), having(of(end, 1, 0, "a"), of(end, 1, 1, "b")),
		having(of(1<<32, 1, 0, "a"), of(1<<32-1, 1, 0, "b")), having(of(1, 1, 0, "a"), of(2, 2, 0, "b"), of(1, 3, 0, "c")),
		having(of(3, 1, 0, "a"), of(1, 2, 0, "b"), of(2, 3, 0, "c")), having(of(1, 1, 0, "a"), of(3, 2, 0, "b"), of(2, 3, 0, "c")),
		without(5, 1, 5, 1), without(5, 2, 5, 1), without(6, 1, 5, 2), both(having(of(5, 1, 2, "s")), without(1, 1, 2, 2, 1, 3)),
	}
	r := rand.New(rand.NewPCG(702, 703))
	for _, n := range []int{2, 10, 64} {
		for k := range n - 1 {
			swapped, twice, behind := rightOne(r, n, 2), rightOne(r, n, 0), rightOne(r, 3, n)
			swapped.Holders[k], swapped.Holders[k+1] = swapped.Holders[k+1], swapped.Holders[k]
			twice.Holders[k+1].Ticket = twice.Holders[k].Ticket
			behind.Gone[k+1] = behind.Gone[k]
			l = append(l, swapped, twice, behind)
		}
	}
	return l
}

// wrongOnes: also with too many holders, or gone, with an Epoch of 0, and with seeds of a wrong size at each place.
func wrongOnes() []api.Issuer {
	l := append(wrongInOrder(), having(of(5, 0, 2, "seed")), having(of(0, 0, 0, "s")), having(api.Holder{}))
	r := rand.New(rand.NewPCG(704, 705))
	for _, n := range []int{65, 66, 127, 128, 129, 255, 256, 257, 300, 320} {
		l = append(l, rightOne(r, n, 0), rightOne(r, n, 64), rightOne(r, 0, n), rightOne(r, 64, n))
	}
	for _, size := range wrongSizes() {
		l = append(l, having(of(5, 1, 2, string(make([]byte, size)))))
		for k := range 3 {
			s := rightOne(r, 3, 2)
			s.Holders[k].Seed = some(r, size)
			l = append(l, s)
		}
	}
	for k := range 64 {
		none, much, never := rightOne(r, 64, 0), rightOne(r, 64, 64), rightOne(r, 64, 1)
		none.Holders[k].Seed = nil
		much.Holders[k].Seed = some(r, 33)
		never.Holders[k].Epoch = 0
		l = append(l, none, much, never)
	}
	return l
}

// fewWrong: one of each kind.
func fewWrong() []api.Issuer {
	return []api.Issuer{
		having(of(5, 0, 2, "seed")), having(of(5, 1, 2, "")), having(of(5, 1, 2, string(make([]byte, 33)))),
		having(of(5, 1, 2, "a"), of(5, 2, 2, "b")), having(of(6, 1, 2, "a"), of(5, 1, 2, "b")), row(65), without(5, 1, 5, 1),
		{Holders: []api.Holder{of(5, 1, 2, "s")}, Gone: make([]api.Gone, 65)},
	}
}

// terms of keys and texts, in turn.
func terms(texts ...string) []api.Term {
	l := []api.Term{}
	for k := 0; k < len(texts); k += 2 {
		l = append(l, api.Term{Key: []byte(texts[k]), Msg: []byte(texts[k+1])})
	}
	return l
}

// sample of a right issuer with all that it may have.
func sample() api.Issuer {
	return both(having(of(5, 1, 2, "seed"), of(7, 2, 3, "t")), without(5, 0, 9, 9))
}

// rightEngines of both kinds, without terms and with some, one of which is what is sealed.
func rightEngines() []api.Engine {
	s := sample()
	s.Version++
	return []api.Engine{
		{Kind: api.Concrete},
		{Kind: api.Concrete, Terms: []api.Term{}},
		{Kind: api.Symbolic},
		{Kind: api.Symbolic, Terms: []api.Term{{}}},
		{Kind: api.Symbolic, Terms: terms("key", "text", "", "A", "A", "")},
		{Kind: api.Symbolic, Terms: terms("key", string(bundleText(s)), "key", string(recordText(of(6, 1, 9, "new"))), "key", string(recordText(of(5, 2, 9, "new"))), "a", "b")},
	}
}

// wrongEngines: of no kind, a Concrete one with terms, and Symbolic ones with a term that is there twice.
func wrongEngines() []api.Engine {
	l := []api.Engine{
		{Kind: api.Concrete, Terms: []api.Term{{}}},
		{Kind: api.Concrete, Terms: terms("key", "text")},
		{Kind: api.Symbolic, Terms: make([]api.Term, 2)},
		{Kind: api.Symbolic, Terms: terms("key", "text", "key", "text")},
		{Kind: api.Symbolic, Terms: terms("key", "text", "a", "b", "a", "b")},
	}
	for _, kind := range []int{0, 3, -1, math.MaxInt, math.MinInt} {
		l = append(l, api.Engine{Kind: kind}, api.Engine{Kind: kind, Terms: terms("key", "text")})
	}
	return l
}

// kinds of engines, new ones.
func kinds() []api.Engine {
	return []api.Engine{{Kind: api.Concrete}, {Kind: api.Symbolic}}
}

func unhex(t *testing.T, s string) []byte {
	t.Helper()
	b, err := hex.DecodeString(s)
	if err != nil {
		t.Fatal(err)
	}
	return b
}

// P22.1

func TestRight(t *testing.T) {
	for _, s := range rightOnes() {
		if !issuer.Right(s) {
			t.Errorf("Right(%v) = false", s)
		}
	}
	for _, s := range append(wrongOnes(), fewWrong()...) {
		if issuer.Right(s) {
			t.Errorf("Right(%v) = true", s)
		}
	}
}

// TestRightOfEachSeed: by its length alone, of a holder ahead of others, between, and behind.
func TestRightOfEachSeed(t *testing.T) {
	for n := range 600 {
		want := n >= 1 && n <= 32
		for k := range 3 {
			s := row(3)
			s.Holders[k].Seed = make([]byte, n, 700)
			if issuer.Right(s) != want {
				t.Errorf("Right with a seed of %d bytes at %d = %v", n, k, !want)
			}
		}
	}
}

// TestRightOfEachEpoch: only 0 may not be; they needn't rise.
func TestRightOfEachEpoch(t *testing.T) {
	for k := range 3 {
		for bit := range 64 {
			for _, v := range []uint64{1 << bit, 1<<bit - 1, -(1 << bit)} {
				s := row(3)
				s.Holders[k].Epoch = v
				if want := v != 0; issuer.Right(s) != want {
					t.Errorf("Right with an Epoch of %d at %d = %v", v, k, !want)
				}
			}
		}
	}
}

// TestRightOfEachLength: so many holders, and so many gone; spare room behind them doesn't count.
func TestRightOfEachLength(t *testing.T) {
	r := rand.New(rand.NewPCG(706, 707))
	room := rightOne(r, 300, 300)
	for n := range 300 {
		for _, other := range []int{0, 1, 63, 64, 65} {
			for _, s := range []api.Issuer{{Holders: room.Holders[:n], Gone: room.Gone[:other]}, {Holders: room.Holders[:other], Gone: room.Gone[:n]}} {
				if want := n <= 64 && other <= 64; issuer.Right(s) != want {
					t.Errorf("Right of %d holders and %d gone = %v", len(s.Holders), len(s.Gone), !want)
				}
			}
		}
	}
}

// TestRightOfAnyKeyAndVersion: neither matters, nor a device, though it be that of another holder.
func TestRightOfAnyKeyAndVersion(t *testing.T) {
	for _, n := range []int{0, 1, 32, 33, 64, 65, 10000} {
		for _, v := range []uint64{0, 1, 1 << 63, end} {
			right, wrong := sample(), having(of(5, 0, 2, "seed"))
			right.Key, right.Version = make([]byte, n), v
			wrong.Key, wrong.Version = make([]byte, n), v
			right.Holders[0].Device, right.Holders[1].Device = v, v
			if !issuer.Right(right) || issuer.Right(wrong) {
				t.Errorf("a key of %d bytes, the version and the devices %d: %v, %v", n, v, issuer.Right(right), issuer.Right(wrong))
			}
		}
	}
}

// TestRightOfSmallOnes: all rows of at most four tickets of five, with what is gone that is right or not.
func TestRightOfSmallOnes(t *testing.T) {
	rows := []api.Issuer{{}, without(5, 1), without(5, 1, 5, 1)}
	for len(rows) > 0 {
		s := rows[0]
		rows = rows[1:]
		if want := otherRight(s); issuer.Right(s) != want {
			t.Errorf("Right(%v) = %v", s, !want)
		}
		if len(s.Holders) == 4 {
			continue
		}
		for _, ticket := range []uint64{0, 1, 2, 1 << 63, end} {
			h := of(ticket, uint64(9-len(s.Holders)), 1, "seed")
			rows = append(rows, api.Issuer{Holders: append(slices.Clone(s.Holders), h), Gone: s.Gone})
		}
	}
}

// checkHolder: what Holder answers, and that what is handed in stays.
func checkHolder(t *testing.T, s api.Issuer, ticket uint64, want api.Holder, wantE api.Errno) {
	t.Helper()
	was := deep(s)
	if got, e := issuer.Holder(s, ticket); !sameHolder(got, want) || e != wantE {
		t.Errorf("Holder(%v, %d) = %v, %v, want %v, %v", s, ticket, got, e, want, wantE)
	}
	if !same(s, was) {
		t.Errorf("Holder left %v as %v", was, s)
	}
}

// TestHolder: in any issuer, right or not.
func TestHolder(t *testing.T) {
	r := rand.New(rand.NewPCG(708, 709))
	for _, s := range append(rightOnes(), wrongOnes()...) {
		first := map[uint64]api.Holder{}
		asked := []uint64{0, 1, 5, 1 << 63, end, s.Version, number(r)}
		for _, h := range s.Holders {
			if _, ok := first[h.Ticket]; !ok {
				first[h.Ticket] = h
			}
			asked = append(asked, h.Ticket, h.Epoch, h.Device, h.Ticket+1, h.Ticket-1, h.Ticket^1<<63, h.Ticket^1<<32)
		}
		for _, g := range s.Gone {
			asked = append(asked, g.Ticket)
		}
		for _, ticket := range asked {
			if h, ok := first[ticket]; ok {
				checkHolder(t, s, ticket, h, api.OK)
			} else {
				checkHolder(t, s, ticket, api.Holder{}, api.ErrNone)
			}
		}
	}
}

// TestHolderIsTheFirst: of holders of one ticket, in no order, and not right themselves.
func TestHolderIsTheFirst(t *testing.T) {
	s := having(of(7, 1, 9, "a"), of(5, 0, 8, ""), of(7, 3, 7, "b"), of(5, 4, 6, "c"), of(0, 5, 5, "d"))
	checkHolder(t, s, 7, of(7, 1, 9, "a"), api.OK)
	checkHolder(t, s, 5, of(5, 0, 8, ""), api.OK)
	checkHolder(t, s, 0, of(0, 5, 5, "d"), api.OK)
	checkHolder(t, s, 1, api.Holder{}, api.ErrNone)
	s.Holders = s.Holders[1:4]
	checkHolder(t, s, 7, of(7, 3, 7, "b"), api.OK)
	checkHolder(t, s, 0, api.Holder{}, api.ErrNone)
	checkHolder(t, api.Issuer{}, 0, api.Holder{}, api.ErrNone)
	checkHolder(t, without(5, 1), 5, api.Holder{}, api.ErrNone)
}

// P22.2

// TestIssueExamples: sealed by a Concrete engine, as reckoned elsewhere.
func TestIssueExamples(t *testing.T) {
	for _, x := range []struct {
		key  string
		h    api.Holder
		text string
	}{
		{"key", of(5, 1, 2, "seed"), "4100000000000000050000000000000001000000000000000204736565647aeb4f5437cd9d31"},
		{string(bytes.Repeat([]byte("k"), 100)), of(0, 1, 0, "\x00"), "4100000000000000000000000000000001000000000000000001001dd0c6c9ab808a41"},
	} {
		g, s, b, e := issuer.Issue(api.Engine{Kind: api.Concrete}, api.Issuer{Key: []byte(x.key), Version: 9}, x.h.Ticket, x.h.Device, x.h.Seed)
		if !sameEngine(g, api.Engine{Kind: api.Concrete}) || !bytes.Equal(b, unhex(t, x.text)) || e != api.OK {
			t.Errorf("Issue of %v = %v, .., %x, %v", x.h, g, b, e)
		}
		if !same(s, api.Issuer{Key: []byte(x.key), Version: 9, Holders: []api.Holder{x.h}}) {
			t.Errorf("Issue of %v: the issuer %v", x.h, s)
		}
	}
}

// TestRebindExamples: as reckoned elsewhere, too.
func TestRebindExamples(t *testing.T) {
	for _, x := range []struct {
		key  string
		was  api.Holder
		h    api.Holder
		text string
	}{
		{"key", of(5, 1, 2, "seed"), of(5, 2, 3, "other"), "41000000000000000500000000000000020000000000000003056f74686572770ce6ce53e5dcb0"},
		{"", of(end, end-1, 0, "s"), of(end, end, end, string(bytes.Repeat([]byte{255}, 32))), "41ffffffffffffffffffffffffffffffffffffffffffffffff20ffffffffffffffffffffffffffffffffffffffffffffffffffffffffffffffff4ee0d2ad15b7f142"},
	} {
		s := api.Issuer{Key: []byte(x.key), Version: 9, Holders: []api.Holder{x.was}, Gone: []api.Gone{{Ticket: 5, Epoch: 1}}}
		g, s, b, e := issuer.Rebind(api.Engine{Kind: api.Concrete}, s, x.h.Ticket, x.h.Device, x.h.Seed)
		if !sameEngine(g, api.Engine{Kind: api.Concrete}) || !bytes.Equal(b, unhex(t, x.text)) || e != api.OK {
			t.Errorf("Rebind to %v = %v, .., %x, %v", x.h, g, b, e)
		}
		if !same(s, api.Issuer{Key: []byte(x.key), Version: 9, Holders: []api.Holder{x.h}, Gone: []api.Gone{{Ticket: 5, Epoch: 1}}}) {
			t.Errorf("Rebind to %v: the issuer %v", x.h, s)
		}
	}
}

// TestIssueAndRebind: the chapter's example, and what the records are opened to.
func TestIssueAndRebind(t *testing.T) {
	for _, g := range kinds() {
		one := checkIssue(t, g, api.Issuer{Key: []byte("key")}, 5, 2, []byte("seed"))
		two := checkRebind(t, one.g, one.s, 5, 3, []byte("other"))
		three := checkRebind(t, two.g, two.s, 5, 3, []byte("other"))
		for k, x := range []struct {
			a    answer
			want api.Holder
		}{{one, of(5, 1, 2, "seed")}, {two, of(5, 2, 3, "other")}, {three, of(5, 3, 3, "other")}} {
			checkCode(t, x.a, api.OK)
			checkHolder(t, x.a.s, 5, x.want, api.OK)
			a, err := record.Open(three.g, []byte("key"), x.a.b)
			if err != nil || !sameHolder(api.Holder(a), x.want) {
				t.Errorf("record %d is opened to %v, %v", k, a, err)
			}
			if _, err := record.Open(three.g, []byte("other"), x.a.b); err == nil {
				t.Errorf("record %d is opened by another key", k)
			}
		}
	}
}

// TestIssueAtEachPlace: ahead of the holders there are, between them, and behind, by how many they are; the 65th is too many.
func TestIssueAtEachPlace(t *testing.T) {
	for n := range 65 {
		s := both(row(n), without(5, 1, 8, 3))
		for at := range n + 1 {
			got := checkIssue(t, api.Engine{Kind: api.Symbolic}, s, uint64(2*at), 77, []byte("new"))
			if n == 64 {
				checkCode(t, got, api.ErrFull)
				continue
			}
			checkCode(t, got, api.OK)
			if len(got.s.Holders) != n+1 || !sameHolder(got.s.Holders[at], of(uint64(2*at), 1, 77, "new")) || !issuer.Right(got.s) {
				t.Fatalf("%d holders: the one at %d: %v", n, at, got.s)
			}
		}
	}
}

// TestIssueOfATicketThatHasAHolder: at each place, whatever its device and its seed are, also if there are 64.
func TestIssueOfATicketThatHasAHolder(t *testing.T) {
	for _, n := range []int{1, 2, 3, 63, 64} {
		s := row(n)
		for k, h := range s.Holders {
			checkCode(t, checkIssue(t, kinds()[k%2], s, h.Ticket, h.Device, h.Seed), api.ErrSeen)
			checkCode(t, checkIssue(t, kinds()[k%2], s, h.Ticket, 77, []byte("new")), api.ErrSeen)
			want := api.OK
			if n == 64 {
				want = api.ErrFull
			}
			checkCode(t, checkIssue(t, kinds()[k%2], s, h.Ticket+1, h.Device, h.Seed), want)
		}
	}
}

// TestIssueOfEachNumber: each bit of tickets and devices, which may be those of others.
func TestIssueOfEachNumber(t *testing.T) {
	for bit := range 64 {
		for _, v := range []uint64{1 << bit, 1<<bit - 1, -(1 << bit)} {
			for _, s := range []api.Issuer{{}, sample(), having(of(1<<31, 1, 2, "a"), of(1<<63, 1, 2, "b"))} {
				checkIssue(t, kinds()[bit%2], s, v, 2, []byte("seed"))
				checkIssue(t, kinds()[bit%2], s, 3, v, []byte("seed"))
				checkRebind(t, kinds()[bit%2], s, v, 2, []byte("seed"))
				checkRebind(t, kinds()[bit%2], sample(), 5, v, []byte("seed"))
			}
		}
	}
}

// TestSeeds of each length, of Issue and of Rebind.
func TestSeeds(t *testing.T) {
	r := rand.New(rand.NewPCG(710, 711))
	for n := range 300 {
		want := api.ErrArg
		if n >= 1 && n <= 32 {
			want = api.OK
		}
		for _, g := range kinds() {
			seed := some(r, n)
			checkCode(t, checkIssue(t, g, sample(), 6, 2, seed), want)
			checkCode(t, checkRebind(t, g, sample(), 5, 2, seed), want)
		}
	}
	for _, n := range wrongSizes() {
		checkCode(t, checkIssue(t, kinds()[0], sample(), 6, 2, make([]byte, n)), api.ErrArg)
		checkCode(t, checkRebind(t, kinds()[1], sample(), 5, 2, make([]byte, n)), api.ErrArg)
	}
}

// TestSeedsOfOthers: the same seed, or device, may be bound twice.
func TestSeedsOfOthers(t *testing.T) {
	s := sample()
	checkCode(t, checkIssue(t, kinds()[1], s, 6, s.Holders[0].Device, s.Holders[0].Seed), api.OK)
	checkCode(t, checkRebind(t, kinds()[1], s, 7, s.Holders[0].Device, s.Holders[0].Seed), api.OK)
	checkCode(t, checkRebind(t, kinds()[1], s, 5, s.Holders[0].Device, s.Holders[0].Seed), api.OK)
}

// TestRebindAtEachPlace: that holder alone is another one.
func TestRebindAtEachPlace(t *testing.T) {
	for _, n := range []int{1, 2, 3, 63, 64} {
		s := both(row(n), without(5, 1, 8, 3))
		for k, h := range s.Holders {
			got := checkRebind(t, kinds()[k%2], s, h.Ticket, 77, []byte("new"))
			checkCode(t, got, api.OK)
			if !sameHolder(got.s.Holders[k], of(h.Ticket, h.Epoch+1, 77, "new")) {
				t.Fatalf("the holder at %d of %d: %v", k, n, got.s.Holders[k])
			}
			checkCode(t, checkRebind(t, kinds()[k%2], s, h.Ticket+1, 77, []byte("new")), api.ErrNone)
			checkCode(t, checkRebind(t, kinds()[k%2], s, h.Ticket-1, 77, []byte("new")), api.ErrNone)
		}
	}
	checkCode(t, checkRebind(t, kinds()[0], api.Issuer{}, 0, 0, []byte("s")), api.ErrNone)
	checkCode(t, checkRebind(t, kinds()[0], without(5, 1), 5, 0, []byte("s")), api.ErrNone)
}

// TestRebindOfEachEpoch: one more, up to the greatest; none is behind that.
func TestRebindOfEachEpoch(t *testing.T) {
	for bit := range 64 {
		for _, v := range []uint64{1 << bit, 1<<bit - 1, -(1 << bit)} {
			if v == 0 {
				continue
			}
			s := sample()
			s.Holders[bit%2].Epoch = v
			got := checkRebind(t, kinds()[bit%2], s, s.Holders[bit%2].Ticket, 8, []byte("new"))
			if v == end {
				checkCode(t, got, api.ErrMost)
			} else if checkCode(t, got, api.OK); got.s.Holders[bit%2].Epoch != v+1 {
				t.Errorf("the epoch behind %d: %d", v, got.s.Holders[bit%2].Epoch)
			}
		}
	}
	s := having(of(4, end, 1, "a"), of(5, end-1, 1, "b"), of(6, end, 1, "c"))
	last := checkRebind(t, kinds()[1], s, 5, 1, []byte("b"))
	checkCode(t, last, api.OK)
	checkCode(t, checkRebind(t, last.g, last.s, 5, 1, []byte("b")), api.ErrMost)
	checkCode(t, checkRebind(t, kinds()[1], s, 4, 1, []byte("b")), api.ErrMost)
	checkCode(t, checkRebind(t, kinds()[1], s, 6, 1, []byte("b")), api.ErrMost)
}

// TestByEachEngine: what is sealed may have its tag already.
func TestByEachEngine(t *testing.T) {
	for _, g := range rightEngines() {
		for _, key := range [][]byte{nil, []byte("key"), []byte("A"), make([]byte, 64), make([]byte, 300)} {
			s := sample()
			s.Key = key
			checkCode(t, checkIssue(t, g, s, 6, 9, []byte("new")), api.OK)
			checkCode(t, checkRebind(t, g, s, 5, 9, []byte("new")), api.OK)
			checkCode(t, checkBuild(t, g, s), api.OK)
		}
	}
}

// TestWrongArguments: each alone, ahead of what else is wrong.
func TestWrongArguments(t *testing.T) {
	most := row(64)
	most.Holders[2].Epoch, most.Version = end, end
	for _, g := range wrongEngines() {
		for _, ticket := range []uint64{5, 6, 128} {
			for _, s := range []api.Issuer{{}, sample(), most} {
				checkCode(t, checkIssue(t, g, s, ticket, 1, []byte("s")), api.ErrArg)
				checkCode(t, checkRebind(t, g, s, ticket, 1, []byte("s")), api.ErrArg)
			}
		}
		for _, s := range []api.Issuer{{}, sample(), most} {
			checkCode(t, checkBuild(t, g, s), api.ErrArg)
		}
	}
	for _, seed := range [][]byte{nil, {}, make([]byte, 33)} {
		for _, ticket := range []uint64{5, 6, 128} {
			checkCode(t, checkIssue(t, kinds()[0], most, ticket, 1, seed), api.ErrArg)
			checkCode(t, checkRebind(t, kinds()[0], most, ticket, 1, seed), api.ErrArg)
		}
	}
}

// TestWrongIssuers: whatever is wrong of one, a call tells ErrArg ahead of all else.
func TestWrongIssuers(t *testing.T) {
	for k, s := range append(wrongOnes(), fewWrong()...) {
		if k%2 == 0 {
			s.Version = end
		}
		asked := []uint64{0, 5, end}
		for _, h := range s.Holders[:min(len(s.Holders), 3)] {
			asked = append(asked, h.Ticket)
		}
		for _, ticket := range asked {
			checkCode(t, checkIssue(t, kinds()[k%2], s, ticket, 1, []byte("s")), api.ErrArg)
			checkCode(t, checkRebind(t, kinds()[k%2], s, ticket, 1, []byte("s")), api.ErrArg)
			checkCode(t, checkRevoke(t, s, ticket), api.ErrArg)
		}
		checkCode(t, checkBuild(t, kinds()[k%2], s), api.ErrArg)
	}
	for _, s := range fewWrong() {
		for _, g := range append(wrongEngines(), rightEngines()...) {
			checkCode(t, checkIssue(t, g, s, 5, 1, nil), api.ErrArg)
			checkCode(t, checkRebind(t, g, s, 5, 1, nil), api.ErrArg)
			checkCode(t, checkBuild(t, g, s), api.ErrArg)
		}
	}
}

// P22.3

// TestRevokeAtEachPlace: that holder's ticket and epoch are gone; the holders stay.
func TestRevokeAtEachPlace(t *testing.T) {
	for _, n := range []int{1, 2, 3, 63, 64} {
		s := row(n)
		for _, h := range s.Holders {
			one := api.Gone{Ticket: h.Ticket, Epoch: h.Epoch}
			s.Gone = without(0, 9, h.Ticket, h.Epoch-1, h.Ticket, h.Epoch+1, h.Ticket+1, h.Epoch, end, 0).Gone
			got := checkRevoke(t, s, h.Ticket)
			checkCode(t, got, api.OK)
			if len(got.s.Gone) != 6 || !gone.Has(got.s.Gone, one) || !slices.EqualFunc(got.s.Holders, s.Holders, sameHolder) || !issuer.Right(got.s) {
				t.Fatalf("behind the revoking of %v: %v", h, got.s)
			}
			checkCode(t, checkRevoke(t, s, h.Ticket+1), api.ErrNone)
			// Again: it is there already.
			if again := checkRevoke(t, got.s, h.Ticket); !sameAnswer(again, got) {
				t.Fatalf("behind its revoking again: %v, not %v", again, got)
			}
		}
	}
	checkCode(t, checkRevoke(t, api.Issuer{}, 0), api.ErrNone)
	checkCode(t, checkRevoke(t, without(5, 1), 5), api.ErrNone)
}

// TestRevokeIntoEachLength: the 65th is too many, unless it is there already.
func TestRevokeIntoEachLength(t *testing.T) {
	for n := range 65 {
		for epoch := uint64(1); epoch < 135; epoch++ {
			s := having(of(4, 1, 1, "a"), of(5, epoch, 1, "b"), of(6, 1, 1, "c"))
			s.Gone = full()[:n]
			want := api.OK
			if n == 64 && (epoch%2 == 1 || epoch > 128) {
				want = api.ErrFull
			}
			checkCode(t, checkRevoke(t, s, 5), want)
		}
		s := having(of(4, 1, 1, "a"), of(6, 1, 1, "c"))
		s.Gone = full()[:n]
		want := api.OK
		if n == 64 {
			want = api.ErrFull
		}
		checkCode(t, checkRevoke(t, s, 4), want)
		checkCode(t, checkRevoke(t, s, 6), want)
		checkCode(t, checkRevoke(t, s, 5), api.ErrNone)
	}
}

// TestRevokeOfEachNumber: each bit of ticket and epoch.
func TestRevokeOfEachNumber(t *testing.T) {
	for bit := range 64 {
		for _, v := range []uint64{1 << bit, 1<<bit - 1, -(1 << bit)} {
			s := having(of(v, max(1, ^v), 1, "a"))
			s.Gone = without(3, 9, 1<<40, 1, 1<<63, 0).Gone
			checkCode(t, checkRevoke(t, s, v), api.OK)
			s.Holders[0].Epoch = max(1, v)
			checkCode(t, checkRevoke(t, s, v), api.OK)
		}
	}
}

// TestBuildExamples: sealed by a Concrete engine, as reckoned elsewhere.
func TestBuildExamples(t *testing.T) {
	for _, x := range []struct {
		s    api.Issuer
		text string
	}{
		{api.Issuer{Key: []byte("key")}, "420000000000000001000045ead2ee7c6318ad"},
		{
			api.Issuer{Key: []byte("key"), Version: 257, Holders: []api.Holder{of(5, 2, 3, "other"), of(7, 1, 1<<60, "t")}, Gone: []api.Gone{{Ticket: 5, Epoch: 1}}},
			"4200000000000001020200000000000000050000000000000002056f74686572000000000000000700000000000000010174010000000000000005000000000000000187822c54a019f9e7",
		},
		{
			api.Issuer{Version: end - 1, Holders: []api.Holder{of(end, end, 7, string(bytes.Repeat([]byte{255}, 32)))}, Gone: []api.Gone{{Ticket: end, Epoch: end}}},
			"42ffffffffffffffff01ffffffffffffffffffffffffffffffff20ffffffffffffffffffffffffffffffffffffffffffffffffffffffffffffffff01ffffffffffffffffffffffffffffffff0e7a3ec5ba68a710",
		},
		{
			api.Issuer{Key: bytes.Repeat([]byte("k"), 100), Version: 1, Holders: []api.Holder{of(0, 1, 0, "\x00")}, Gone: []api.Gone{{Epoch: 1}, {Epoch: 2}}},
			"42000000000000000201000000000000000000000000000000010100020000000000000000000000000000000100000000000000000000000000000002f3453a7c7d609f03",
		},
	} {
		want := deep(x.s)
		want.Version++
		g, s, b, e := issuer.Build(api.Engine{Kind: api.Concrete}, x.s)
		if !sameEngine(g, api.Engine{Kind: api.Concrete}) || !same(s, want) || !bytes.Equal(b, unhex(t, x.text)) || e != api.OK {
			t.Errorf("Build of %v = %v, %v, %x, %v", x.s, g, s, b, e)
		}
	}
}

// TestBuild: of right issuers of each length; what was built is opened to what the issuer has.
func TestBuild(t *testing.T) {
	for k, s := range rightOnes() {
		for _, g := range kinds() {
			got := checkBuild(t, g, s)
			if s.Version == end {
				checkCode(t, got, api.ErrMost)
				continue
			}
			checkCode(t, got, api.OK)
			x, err := bundle.Open(got.g, s.Key, got.b)
			if err != nil || x.Version != s.Version+1 || len(x.Entries) != len(s.Holders) || !slices.Equal(x.Gone, s.Gone) {
				t.Fatalf("%d: the bundle of %v: %v, %v", k, s, x, err)
			}
			for _, h := range s.Holders {
				if e, code := bundle.Find(x, h.Ticket); code != api.OK || e.Epoch != h.Epoch || !bytes.Equal(e.Seed, h.Seed) {
					t.Fatalf("%d: the entry of %v: %v, %v", k, h, e, code)
				}
			}
		}
	}
}

// TestBuildOfEachVersion: one more, up to the greatest; none is behind that.
func TestBuildOfEachVersion(t *testing.T) {
	for bit := range 64 {
		for _, v := range []uint64{1 << bit, 1<<bit - 1, -(1 << bit)} {
			for _, s := range []api.Issuer{{}, sample()} {
				s.Version = v
				got := checkBuild(t, kinds()[bit%2], s)
				if v == end {
					checkCode(t, got, api.ErrMost)
				} else if checkCode(t, got, api.OK); got.s.Version != v+1 {
					t.Errorf("the version behind %d: %d", v, got.s.Version)
				}
			}
		}
	}
	s := sample()
	s.Version = end - 1
	last := checkBuild(t, kinds()[1], s)
	checkCode(t, last, api.OK)
	checkCode(t, checkBuild(t, last.g, last.s), api.ErrMost)
}

// P22.4

// checkOnward: from one right issuer to the next, nothing falls, no holder goes, and what is gone stays so.
func checkOnward(t *testing.T, from, to api.Issuer) {
	t.Helper()
	if !issuer.Right(to) || to.Version < from.Version || !bytes.Equal(from.Key, to.Key) {
		t.Fatalf("behind %v stands %v", from, to)
	}
	for _, h := range from.Holders {
		if now, e := issuer.Holder(to, h.Ticket); e != api.OK || now.Epoch < h.Epoch || now.Epoch == h.Epoch && !sameHolder(now, h) {
			t.Fatalf("the holder %v is %v, %v", h, now, e)
		}
	}
	for _, g := range from.Gone {
		if !gone.Has(to.Gone, g) {
			t.Fatalf("%v isn't gone any more: %v", g, to.Gone)
		}
	}
}

// step by chance in an issuer's life.
func step(t *testing.T, r *rand.Rand, g api.Engine, s api.Issuer) (kind int, a answer) {
	t.Helper()
	ticket, seed := uint64(r.IntN(80)), some(r, max(0, r.IntN(36)-1))
	if r.IntN(8) == 0 {
		ticket = end - ticket
	}
	switch kind = r.IntN(5); kind {
	case 0, 1:
		return 0, checkIssue(t, g, s, ticket, number(r), seed)
	case 2:
		return 1, checkRebind(t, g, s, ticket, number(r), seed)
	case 3:
		a = checkRevoke(t, s, ticket)
		a.g = g
		return 2, a
	}
	return 3, checkBuild(t, g, s)
}

// TestLives by chance, of issuers that begin anywhere.
func TestLives(t *testing.T) {
	r := rand.New(rand.NewPCG(712, 713))
	codes := map[[2]int]int{}
	for life := range 60 {
		s := api.Issuer{Key: some(r, r.IntN(3))}
		switch life % 4 {
		case 1:
			s = rightOne(r, r.IntN(65), r.IntN(65))
		case 2:
			s.Version = end - uint64(r.IntN(20))
			for k := range uint64(r.IntN(65)) {
				s.Holders = append(s.Holders, api.Holder{Ticket: k, Epoch: end - uint64(r.IntN(4)), Seed: []byte{1}})
			}
		case 3:
			s = row(30 + r.IntN(30))
			s.Gone = full()[:50+r.IntN(15)]
		}
		g := kinds()[life%2]
		for range 150 {
			kind, a := step(t, r, g, s)
			codes[[2]int{kind, int(a.e)}]++
			if a.e != api.OK && !same(a.s, s) {
				t.Fatalf("beside %v, %v became %v", a.e, s, a.s)
			}
			checkOnward(t, s, a.s)
			g, s = a.g, a.s
		}
		if !mac.Right(g) {
			t.Fatalf("the engine behind a life isn't right: %v", g)
		}
	}
	for _, e := range [][2]int{
		{0, int(api.OK)}, {0, int(api.ErrArg)}, {0, int(api.ErrSeen)}, {0, int(api.ErrFull)},
		{1, int(api.OK)}, {1, int(api.ErrArg)}, {1, int(api.ErrNone)}, {1, int(api.ErrMost)},
		{2, int(api.OK)}, {2, int(api.ErrNone)}, {2, int(api.ErrFull)},
		{3, int(api.OK)}, {3, int(api.ErrMost)},
	} {
		if codes[e] < 20 {
			t.Errorf("%v was told only %d times of %v", e, codes[e], codes)
		}
	}
}

// TestSealedStaysSealed: all that an issuer told is opened by the engine behind all of it, and told what it was then.
func TestSealedStaysSealed(t *testing.T) {
	r := rand.New(rand.NewPCG(714, 715))
	for _, g := range kinds() {
		s := api.Issuer{Key: []byte("key")}
		type told struct {
			b []byte
			s api.Issuer
		}
		var all []told
		for range 200 {
			var a answer
			_, a = step(t, r, g, s)
			g, s = a.g, a.s
			if len(a.b) > 0 {
				all = append(all, told{a.b, a.s})
			}
		}
		for _, x := range all {
			if x.b[0] == 'A' {
				a, err := record.Open(g, s.Key, x.b)
				if h, e := issuer.Holder(x.s, a.Ticket); err != nil || e != api.OK || !sameHolder(h, api.Holder(a)) {
					t.Fatalf("a record of %v is opened to %v, %v", x.s, a, err)
				}
				continue
			}
			y, err := bundle.Open(g, s.Key, x.b)
			if b, _ := bundle.Bytes(y); err != nil || !bytes.Equal(b, bundleText(x.s)) {
				t.Fatalf("a bundle of %v is opened to %v, %v", x.s, y, err)
			}
		}
		if len(all) < 50 {
			t.Errorf("only %d were told", len(all))
		}
	}
}

// TestRevokedStaysSo: the epoch that was revoked, through rebinding and revoking again.
func TestRevokedStaysSo(t *testing.T) {
	g, s := kinds()[1], api.Issuer{}
	a := checkIssue(t, g, s, 5, 1, []byte("seed"))
	for epoch := uint64(1); epoch <= 64; epoch++ {
		a.s = checkRevoke(t, a.s, 5).s
		a = checkRebind(t, a.g, a.s, 5, epoch, []byte("seed"))
		for was := uint64(1); was <= epoch; was++ {
			if !gone.Has(a.s.Gone, api.Gone{Ticket: 5, Epoch: was}) {
				t.Fatalf("the epoch %d isn't gone behind %d: %v", was, epoch, a.s.Gone)
			}
		}
		if gone.Has(a.s.Gone, api.Gone{Ticket: 5, Epoch: epoch + 1}) {
			t.Fatalf("the epoch %d is gone, and was not revoked", epoch+1)
		}
	}
	checkCode(t, checkRevoke(t, a.s, 5), api.ErrFull)
}

// The rules that hold everywhere.

// spoilBytes in all their room.
func spoilBytes(b []byte) {
	b = b[:cap(b)]
	for k := range b {
		b[k] ^= 85
	}
}

// spoil all of an issuer's memory, its spare room, too.
func spoil(s api.Issuer) {
	spoilBytes(s.Key)
	holders := s.Holders[:cap(s.Holders)]
	for k, h := range holders {
		spoilBytes(h.Seed)
		holders[k] = of(77, 77, 77, "spoilt")
	}
	l := s.Gone[:cap(s.Gone)]
	for k := range l {
		l[k] = api.Gone{Ticket: 77, Epoch: 77}
	}
}

// spoilEngine: all of an engine's memory, its spare room, too.
func spoilEngine(g api.Engine) {
	l := g.Terms[:cap(g.Terms)]
	for k, x := range l {
		spoilBytes(x.Key)
		spoilBytes(x.Msg)
		l[k] = api.Term{Key: []byte("spoilt"), Msg: []byte("spoilt")}
	}
}

// roomy copy of an issuer, with something in all spare room; whole shows it, too.
func roomy(s api.Issuer) (part, whole api.Issuer) {
	part, whole = deep(s), deep(s)
	for k, h := range part.Holders {
		seed := slices.Concat(h.Seed, []byte("behind"))
		part.Holders[k].Seed, whole.Holders[k].Seed = seed[:len(h.Seed)], seed
	}
	key := slices.Concat(s.Key, []byte("behind"))
	part.Key, whole.Key = key[:len(s.Key)], key
	part.Holders = append(part.Holders, of(91, 92, 93, "behind"))
	whole.Holders = append(whole.Holders, part.Holders[len(s.Holders)])
	part.Holders = part.Holders[:len(s.Holders)]
	part.Gone = append(part.Gone, api.Gone{Ticket: 91, Epoch: 92})
	whole.Gone = part.Gone
	part.Gone = part.Gone[:len(s.Gone)]
	return part, whole
}

func TestHolderIsNewMemory(t *testing.T) {
	part, whole := roomy(sample())
	was := deep(whole)
	one, _ := issuer.Holder(part, 5)
	other, _ := issuer.Holder(part, 5)
	spoilBytes(one.Seed)
	if !same(whole, was) || string(other.Seed) != "seed" {
		t.Errorf("a holder shares memory: %v, %v", whole, other)
	}
	spoil(part)
	if !sameHolder(other, of(5, 1, 2, "seed")) {
		t.Errorf("a holder came as %v", other)
	}
}

// calls of an engine, an issuer and a seed, some of which tell an error.
func calls() []func(g api.Engine, s api.Issuer, seed []byte) answer {
	ticket := func(call func(api.Engine, api.Issuer, uint64, uint64, []byte) answer, ticket uint64) func(api.Engine, api.Issuer, []byte) answer {
		return func(g api.Engine, s api.Issuer, seed []byte) answer { return call(g, s, ticket, 9, seed) }
	}
	return []func(g api.Engine, s api.Issuer, seed []byte) answer{
		ticket(issue, 4), ticket(issue, 5), ticket(issue, 6), ticket(issue, 8),
		ticket(rebind, 4), ticket(rebind, 5), ticket(rebind, 7),
		func(_ api.Engine, s api.Issuer, _ []byte) answer { return revoke(s, 4) },
		func(_ api.Engine, s api.Issuer, _ []byte) answer { return revoke(s, 5) },
		func(_ api.Engine, s api.Issuer, _ []byte) answer { return revoke(s, 7) },
		func(g api.Engine, s api.Issuer, _ []byte) answer { return build(g, s) },
	}
}

// issuersOfAllKinds: right or not, at a greatest number or not.
func issuersOfAllKinds() []api.Issuer {
	most := having(of(5, end, 2, "seed"), of(7, end, 2, "t"))
	most.Version = end
	fullOne := sample()
	fullOne.Gone = full()
	return append(fewWrong(), api.Issuer{}, sample(), most, fullOne, row(64), both(having(of(5, 1, 2, "s")), without(5, 1)))
}

// TestAnswersAreNewMemory: spoiling what was handed in leaves an answer, and the other way.
func TestAnswersAreNewMemory(t *testing.T) {
	for _, engine := range append(rightEngines(), wrongEngines()...) {
		for _, s := range issuersOfAllKinds() {
			for k, call := range calls() {
				part, whole := roomy(s)
				was := deep(whole)
				g, seed := deepEngine(engine), slices.Concat([]byte("new"), []byte("behind"))
				want := deepAnswer(call(g, part, seed[:3]))
				got := call(g, part, seed[:3])
				spoilEngine(got.g)
				spoil(got.s)
				spoilBytes(got.b)
				if !sameEngine(g, engine) || !same(whole, was) || string(seed) != "newbehind" {
					t.Fatalf("call %d of %v, %v shares memory: %v, %v, %q", k, engine, s, g, whole, seed)
				}
				got = call(g, part, seed[:3])
				spoilEngine(g)
				spoil(part)
				spoilBytes(seed)
				if !sameAnswer(got, want) {
					t.Fatalf("call %d of %v, %v keeps what was handed in: %v, want %v", k, engine, s, got, want)
				}
			}
		}
	}
}

// TestPartsOfAnswersShareNothing: engine, issuer and bytes of one answer.
func TestPartsOfAnswersShareNothing(t *testing.T) {
	for _, engine := range rightEngines() {
		for _, s := range issuersOfAllKinds() {
			for k, call := range calls() {
				made := func() answer { return call(deepEngine(engine), deep(s), []byte("new")) }
				want := made()
				for part := range 3 {
					got := made()
					switch part {
					case 0:
						spoilEngine(got.g)
						got.g = want.g
					case 1:
						spoil(got.s)
						got.s = want.s
					case 2:
						spoilBytes(got.b)
						got.b = want.b
					}
					if !sameAnswer(got, want) {
						t.Fatalf("part %d of call %d of %v, %v shares memory: %v, want %v", part, k, engine, s, got, want)
					}
				}
			}
		}
	}
}

// TestListsOfAnIssuerShareNothing: its key, and the seeds of its holders.
func TestListsOfAnIssuerShareNothing(t *testing.T) {
	text := []byte("seed")
	s := api.Issuer{Key: text, Holders: []api.Holder{{Ticket: 5, Epoch: 1, Seed: text}, {Ticket: 7, Epoch: 1, Seed: text}}}
	for k, call := range calls() {
		lists := func(a answer) [][]byte {
			l := [][]byte{a.s.Key}
			for _, h := range a.s.Holders {
				l = append(l, h.Seed)
			}
			return l
		}
		want := call(kinds()[1], s, text)
		for at := range lists(want) {
			got := call(kinds()[1], s, text)
			spoilBytes(lists(got)[at])
			for other, b := range lists(got) {
				if (other == at) == bytes.Equal(b, lists(want)[other]) {
					t.Errorf("call %d: the lists %d and %d share memory: %q", k, at, other, lists(got))
				}
			}
		}
	}
	if string(text) != "seed" {
		t.Errorf("the text is %q", text)
	}
}
