package gone_test

import (
	"bytes"
	"encoding/binary"
	"math"
	"math/rand/v2"
	"slices"
	"testing"

	"wristband/api"
	"wristband/gone"
)

// most that a list may have.
const most = 64

// of a ticket and an epoch.
func of(ticket, epoch uint64) api.Gone { return api.Gone{Ticket: ticket, Epoch: epoch} }

// list of tickets and epochs, in turn.
func list(numbers ...uint64) []api.Gone {
	l := []api.Gone{}
	for i := 0; i < len(numbers); i += 2 {
		l = append(l, of(numbers[i], numbers[i+1]))
	}
	return l
}

// some bytes by chance.
func some(r *rand.Rand, n int) []byte {
	b := make([]byte, n)
	for k := range b {
		b[k] = byte(r.Uint32())
	}
	return b
}

// number by chance, of any length.
func number(r *rand.Rand) uint64 {
	return r.Uint64() >> r.IntN(65)
}

// ordered: what stands in a set, the least first.
func ordered(set map[api.Gone]bool) []api.Gone {
	l := []api.Gone{}
	for g := range set {
		at := 0
		for at < len(l) && otherLess(l[at], g) {
			at++
		}
		l = slices.Insert(l, at, g)
	}
	return l
}

// rightOne by chance, of so many; few says that many of them share a ticket.
func rightOne(r *rand.Rand, n int, few bool) []api.Gone {
	set := map[api.Gone]bool{}
	for len(set) < n {
		g := of(number(r), number(r))
		if few {
			g.Ticket %= 4
		}
		set[g] = true
	}
	return ordered(set)
}

// numbersOf a ticket and an epoch, as bytes, which stand in the order of what they are of.
func numbersOf(g api.Gone) []byte {
	b := binary.BigEndian.AppendUint64(nil, g.Ticket)
	return binary.BigEndian.AppendUint64(b, g.Epoch)
}

// otherLess: by their bytes.
func otherLess(a, b api.Gone) bool {
	return bytes.Compare(numbersOf(a), numbersOf(b)) < 0
}

// otherRight holds each two of a list together, not just neighbours.
func otherRight(l []api.Gone) bool {
	for i := range l {
		for k := range i {
			if !otherLess(l[k], l[i]) {
				return false
			}
		}
	}
	return len(l) <= most
}

// otherBytes of a list, whether it is right or not.
func otherBytes(l []api.Gone) []byte {
	b := []byte{byte(len(l))}
	for _, g := range l {
		b = append(b, numbersOf(g)...)
	}
	return b
}

// otherRead goes through all that the chapter names, in its order.
func otherRead(b []byte) ([]api.Gone, int, api.Errno) {
	if len(b) < 1 {
		return nil, 0, api.ErrShort
	}
	many := int(b[0])
	if many > most {
		return nil, 0, api.ErrForm
	}
	if len(b)-1 < many*16 {
		return nil, 0, api.ErrShort
	}
	var l []api.Gone
	at := 1
	for range many {
		l = append(l, of(binary.BigEndian.Uint64(b[at:]), binary.BigEndian.Uint64(b[at+8:])))
		at += 16
	}
	if !otherRight(l) {
		return nil, 0, api.ErrForm
	}
	return l, at, api.OK
}

// otherPut: none, if it may not be; else what is in the list and what is put.
func otherPut(l []api.Gone, g api.Gone) ([]api.Gone, api.Errno) {
	if !otherRight(l) {
		return nil, api.ErrArg
	}
	set := map[api.Gone]bool{g: true}
	for _, x := range l {
		set[x] = true
	}
	if len(set) > most {
		return nil, api.ErrFull
	}
	return ordered(set), api.OK
}

// rightOnes: rows that rise, of one ticket, of one epoch, of numbers at their ends.
func rightOnes() [][]api.Gone {
	l := [][]api.Gone{
		nil, {}, list(0, 0), list(5, 1), list(math.MaxUint64, math.MaxUint64),
		list(0, 0, 0, 1, 1, 0), list(1, math.MaxUint64, 2, 0), list(0, 0, math.MaxUint64, math.MaxUint64),
		list(1, 7, 256, 3), list(255, 9, 256, 0), list(1, 0, 1<<63, 0), list(0, 1, 0, 1<<63),
		list(math.MaxInt64, 5, 1<<63, 4), list(1<<32-1, 1, 1<<32, 0), list(7, 1<<32-1, 7, 1<<32),
	}
	r := rand.New(rand.NewPCG(400, 401))
	for _, n := range []int{1, 2, 3, 10, 15, 16, 31, 32, 33, 62, 63, 64} {
		same, each := []api.Gone{}, []api.Gone{}
		for k := range n {
			same = append(same, of(7, uint64(k)))
			each = append(each, of(uint64(k), 1))
		}
		l = append(l, same, each, rightOne(r, n, true), rightOne(r, n, false))
	}
	return l
}

// wrongOnes: two alike, a greater one ahead of a less one, and too many, also by so many that a byte wouldn't tell.
func wrongOnes() [][]api.Gone {
	l := [][]api.Gone{
		list(0, 0, 0, 0), list(5, 1, 5, 1), list(5, 2, 5, 1), list(6, 1, 5, 2), list(2, 0, 1, math.MaxUint64),
		list(1<<63, 0, 1, 0), list(0, 1<<63, 0, 1), list(256, 0, 255, 0), list(5, 256, 5, 255),
		list(1, 1, 2, 2, 1, 3), list(1, 1, 1, 2, 1, 2), list(3, 3, 1, 1, 2, 2), list(1, 1, 3, 3, 2, 2),
		list(math.MaxUint64, math.MaxUint64, math.MaxUint64, math.MaxUint64), make([]api.Gone, 64), make([]api.Gone, 65),
	}
	r := rand.New(rand.NewPCG(402, 403))
	for _, n := range []int{65, 66, 127, 128, 129, 255, 256, 257, 300, 320} {
		l = append(l, rightOne(r, n, false), rightOne(r, n, true))
	}
	for _, n := range []int{2, 10, 64} {
		for k := range n - 1 {
			swapped, twice := rightOne(r, n, true), rightOne(r, n, false)
			swapped[k], swapped[k+1] = swapped[k+1], swapped[k]
			twice[k+1] = twice[k]
			l = append(l, swapped, twice)
		}
	}
	return l
}

// smallOnes: all lists of at most four, of nine kinds.
func smallOnes() [][]api.Gone {
	kinds := list(0, 0, 0, 1, 0, 2, 1, 0, 1, 1, 1, 2, 2, 0, 2, 1, 2, 2)
	all := [][]api.Gone{nil}
	last := all
	for range 4 {
		var next [][]api.Gone
		for _, l := range last {
			for _, g := range kinds {
				next = append(next, slices.Concat(l, []api.Gone{g}))
			}
		}
		all = append(all, next...)
		last = next
	}
	return all
}

// checkPut: what Put answers, and that what is handed in stays.
func checkPut(t *testing.T, l []api.Gone, g api.Gone, want []api.Gone, wantE api.Errno) {
	t.Helper()
	was := slices.Clone(l)
	if got, e := gone.Put(l, g); !slices.Equal(got, want) || e != wantE {
		t.Fatalf("Put(%v, %v) = %v, %v, want %v, %v", was, g, got, e, want, wantE)
	}
	if !slices.Equal(l, was) {
		t.Fatalf("Put(%v, %v) left %v", was, g, l)
	}
}

// checkPutAlike: what Put answers is what a set has, too.
func checkPutAlike(t *testing.T, l []api.Gone, g api.Gone) {
	t.Helper()
	want, wantE := otherPut(l, g)
	checkPut(t, l, g, want, wantE)
}

// checkBytes: what Bytes answers, and that what is handed in stays.
func checkBytes(t *testing.T, l []api.Gone, want []byte, wantE api.Errno) {
	t.Helper()
	was := slices.Clone(l)
	if got, e := gone.Bytes(l); !bytes.Equal(got, want) || e != wantE {
		t.Fatalf("Bytes(%v) = %v, %v, want %v, %v", was, got, e, want, wantE)
	}
	if !slices.Equal(l, was) {
		t.Fatalf("Bytes(%v) left %v", was, l)
	}
}

// checkRead: what Read answers, and that what is handed in stays.
func checkRead(t *testing.T, b []byte, want []api.Gone, wantN int, wantE api.Errno) {
	t.Helper()
	was := slices.Clone(b)
	if got, n, e := gone.Read(b); !slices.Equal(got, want) || n != wantN || e != wantE {
		t.Fatalf("Read(%v) = %v, %d, %v, want %v, %d, %v", was, got, n, e, want, wantN, wantE)
	}
	if !bytes.Equal(b, was) {
		t.Fatalf("Read(%v) left %v", was, b)
	}
}

// checkReadAlike: what Read answers is what the chapter gone through tells, too.
func checkReadAlike(t *testing.T, b []byte) api.Errno {
	t.Helper()
	want, n, e := otherRead(b)
	checkRead(t, b, want, n, e)
	return e
}

// P15.1

func TestRight(t *testing.T) {
	for _, l := range rightOnes() {
		if !gone.Right(l) {
			t.Errorf("Right(%v) = false", l)
		}
	}
	for _, l := range wrongOnes() {
		if gone.Right(l) {
			t.Errorf("Right(%v) = true", l)
		}
	}
}

func TestRightOfSmallOnes(t *testing.T) {
	right := 0
	for _, l := range smallOnes() {
		want := otherRight(l)
		if want {
			right++
		}
		if gone.Right(l) != want {
			t.Errorf("Right(%v) = %v", l, !want)
		}
	}
	// So many ways there are to take at most four of nine.
	if right != 1+9+36+84+126 {
		t.Errorf("%d small lists are right", right)
	}
}

// TestRightOfEachBit: two numbers that are unlike in one bit, in either order, as tickets and as epochs.
func TestRightOfEachBit(t *testing.T) {
	r := rand.New(rand.NewPCG(404, 405))
	for k := range 64 {
		for range 20 {
			less, other := number(r)&^(1<<k), number(r)
			greater := less | 1<<k
			for _, l := range [][]api.Gone{
				list(less, other, greater, other), list(other, less, other, greater),
				// The ticket comes ahead of the epoch.
				list(less, math.MaxUint64, greater, 0), list(less, greater, greater, less),
			} {
				if !gone.Right(l) {
					t.Errorf("Right(%v) = false", l)
				}
				if l[0], l[1] = l[1], l[0]; gone.Right(l) {
					t.Errorf("Right(%v) = true", l)
				}
			}
		}
	}
}

// TestRightOfEachLength: rows that rise, of any length.
func TestRightOfEachLength(t *testing.T) {
	row := []api.Gone{}
	for n := range 600 {
		if want := n <= most; gone.Right(row) != want {
			t.Errorf("Right of %d that rise = %v", n, !want)
		}
		row = append(row, of(uint64(n/3), uint64(n%3)))
	}
	// Spare room behind a list doesn't count.
	for n := range row {
		if want := n <= most; gone.Right(row[:n]) != want {
			t.Errorf("Right of %d that rise, with spare room = %v", n, !want)
		}
	}
}

// TestRightOfEachPlace: one place of a long list to what stands at another, or to what is greater or less than all.
func TestRightOfEachPlace(t *testing.T) {
	r := rand.New(rand.NewPCG(406, 407))
	row := rightOne(r, most, true)
	for k := range row {
		for _, g := range append(list(0, 0, math.MaxUint64, math.MaxUint64), row...) {
			l := slices.Clone(row)
			l[k] = g
			if want := otherRight(l); gone.Right(l) != want {
				t.Errorf("Right = %v with %v at %d of %v", !want, g, k, row)
			}
		}
	}
}

// TestHas: in any list, right or not.
func TestHas(t *testing.T) {
	r := rand.New(rand.NewPCG(408, 409))
	for _, l := range append(rightOnes(), wrongOnes()...) {
		asked := list(0, 0, 5, 1, 1, 5, 7, 3, math.MaxUint64, math.MaxUint64)
		for _, g := range l {
			asked = append(asked, g, of(g.Epoch, g.Ticket), of(g.Ticket+1, g.Epoch), of(g.Ticket-1, g.Epoch), of(g.Ticket, g.Epoch+1), of(g.Ticket, g.Epoch-1), of(g.Ticket^1<<63, g.Epoch), of(g.Ticket, g.Epoch^1<<32), of(number(r), g.Epoch))
		}
		there := map[api.Gone]bool{}
		for _, g := range l {
			there[g] = true
		}
		was := slices.Clone(l)
		for _, g := range asked {
			if gone.Has(l, g) != there[g] {
				t.Fatalf("Has(%v, %v) = %v", l, g, !there[g])
			}
		}
		if !slices.Equal(l, was) {
			t.Errorf("Has left %v as %v", was, l)
		}
	}
}

func TestHasOfSmallOnes(t *testing.T) {
	for _, l := range smallOnes() {
		for ticket := range uint64(4) {
			for epoch := range uint64(4) {
				g := of(ticket, epoch)
				want := false
				for _, x := range l {
					want = want || x.Ticket == ticket && x.Epoch == epoch
				}
				if gone.Has(l, g) != want {
					t.Errorf("Has(%v, %v) = %v", l, g, !want)
				}
			}
		}
	}
}

// TestHasAsFarAsTheListGoes: spare room behind it is not looked at.
func TestHasAsFarAsTheListGoes(t *testing.T) {
	room := list(1, 1, 2, 2, 3, 3)
	for n := range room {
		for k, g := range room {
			if gone.Has(room[:n], g) != (k < n) {
				t.Errorf("Has(%v, %v) = %v", room[:n], g, k >= n)
			}
		}
	}
}

func TestPut(t *testing.T) {
	checkPut(t, nil, of(5, 1), list(5, 1), api.OK)
	checkPut(t, nil, of(0, 0), list(0, 0), api.OK)
	checkPut(t, list(5, 1), of(5, 1), list(5, 1), api.OK)
	checkPut(t, list(5, 1), of(5, 2), list(5, 1, 5, 2), api.OK)
	checkPut(t, list(5, 1), of(5, 0), list(5, 0, 5, 1), api.OK)
	checkPut(t, list(5, 1), of(4, 9), list(4, 9, 5, 1), api.OK)
	checkPut(t, list(5, 1), of(1<<63, 0), list(5, 1, 1<<63, 0), api.OK)
	checkPut(t, list(1, 2, 3, 4), of(2, 3), list(1, 2, 2, 3, 3, 4), api.OK)
	checkPut(t, list(3, 4, 1, 2), of(3, 4), nil, api.ErrArg)
}

func TestPutOfSmallOnes(t *testing.T) {
	for _, l := range smallOnes() {
		for ticket := range uint64(4) {
			for epoch := range uint64(4) {
				checkPutAlike(t, l, of(ticket, epoch))
			}
		}
	}
}

// TestPutAtEachPlace: all that a list lacks is put back, wherever it stood; all that it has is put once more.
func TestPutAtEachPlace(t *testing.T) {
	for _, l := range rightOnes() {
		for k, g := range l {
			checkPut(t, l, g, l, api.OK)
			checkPut(t, slices.Delete(slices.Clone(l), k, k+1), g, l, api.OK)
			checkPutAlike(t, l, of(g.Ticket+1, g.Epoch))
			checkPutAlike(t, l, of(g.Ticket, g.Epoch-1))
		}
		checkPutAlike(t, l, of(0, 0))
		checkPutAlike(t, l, of(math.MaxUint64, math.MaxUint64))
	}
}

// TestPutOfAFullOne: with 64, only what is there already may be put; with 63, anything.
func TestPutOfAFullOne(t *testing.T) {
	r := rand.New(rand.NewPCG(410, 411))
	for _, few := range []bool{true, false} {
		full := rightOne(r, most, few)
		for k, g := range full {
			checkPut(t, full, g, full, api.OK)
			checkPut(t, full, of(g.Ticket, ^g.Epoch), nil, api.ErrFull)
			checkPut(t, full, of(g.Ticket^1<<60, g.Epoch), nil, api.ErrFull)
			one := slices.Delete(slices.Clone(full), k, k+1)
			checkPut(t, one, g, full, api.OK)
			for _, other := range list(0, 0, math.MaxUint64, math.MaxUint64, number(r), number(r)) {
				if got, e := gone.Put(one, other); e != api.OK || len(got) < 63 || !gone.Has(got, other) {
					t.Errorf("%v, put into 63: %v, %v", other, got, e)
				}
				checkPutAlike(t, one, other)
				checkPutAlike(t, full, other)
			}
		}
	}
}

// TestPutOfWrongOnes: ErrArg comes ahead of their being full, also if it is there already.
func TestPutOfWrongOnes(t *testing.T) {
	for _, l := range wrongOnes() {
		for _, g := range append(list(0, 0, 5, 1, 9, 9, math.MaxUint64, math.MaxUint64), l...) {
			checkPut(t, l, g, nil, api.ErrArg)
		}
	}
}

// P15.2

// examples of lists, and their bytes, written out.
func examples() map[string][]api.Gone {
	return map[string][]api.Gone{
		"\x00": nil,
		"\x01\x00\x00\x00\x00\x00\x00\x00\x05\x00\x00\x00\x00\x00\x00\x00\x01": list(5, 1),
		"\x01\x01\x02\x03\x04\x05\x06\x07\x08\x11\x12\x13\x14\x15\x16\x17\x18": list(0x0102030405060708, 0x1112131415161718),
		"\x01\xff\xff\xff\xff\xff\xff\xff\xff\xff\xff\xff\xff\xff\xff\xff\xff": list(math.MaxUint64, math.MaxUint64),
		"\x02" + "\x00\x00\x00\x00\x00\x00\x00\x00" + "\x00\x00\x00\x00\x00\x00\x00\x00" +
			"\x00\x00\x00\x00\x00\x00\x01\x02" + "\x80\x00\x00\x00\x00\x00\x00\x00": list(0, 0, 258, 1<<63),
		"\x02" + "\x00\x00\x00\x00\x00\x00\x00\x07" + "\x00\x00\x00\x00\x00\x00\x00\x02" +
			"\x00\x00\x00\x00\x00\x00\x00\x07" + "\x00\x00\x00\x00\x00\x00\x00\x03": list(7, 2, 7, 3),
	}
}

func TestBytes(t *testing.T) {
	for b, l := range examples() {
		checkBytes(t, l, []byte(b), api.OK)
	}
	for _, l := range rightOnes() {
		checkBytes(t, l, otherBytes(l), api.OK)
	}
	for _, l := range wrongOnes() {
		checkBytes(t, l, nil, api.ErrArg)
	}
	for _, l := range smallOnes() {
		if otherRight(l) {
			checkBytes(t, l, otherBytes(l), api.OK)
		} else {
			checkBytes(t, l, nil, api.ErrArg)
		}
	}
}

// TestBytesOfEachNumber: each bit of both numbers.
func TestBytesOfEachNumber(t *testing.T) {
	for k := range 64 {
		for _, v := range []uint64{1 << k, 1<<k - 1, -(1 << k)} {
			for _, l := range [][]api.Gone{list(v, 0), list(0, v), list(v, ^v), list(v/2, v, ^(v / 2), v)} {
				checkBytes(t, l, otherBytes(l), api.OK)
			}
		}
	}
}

func TestRead(t *testing.T) {
	for b, l := range examples() {
		checkRead(t, []byte(b), l, len(b), api.OK)
		checkRead(t, []byte(b+"\x00"), l, len(b), api.OK)
		checkRead(t, []byte(b+b), l, len(b), api.OK)
	}
	checkRead(t, nil, nil, 0, api.ErrShort)
	checkRead(t, []byte{}, nil, 0, api.ErrShort)
	checkRead(t, []byte{0}, nil, 1, api.OK)
	checkRead(t, []byte{0, 1, 2, 3}, nil, 1, api.OK)
}

// TestReadOfEachLength: all beginnings of a list's bytes, and whatever is behind them.
func TestReadOfEachLength(t *testing.T) {
	r := rand.New(rand.NewPCG(412, 413))
	for _, l := range rightOnes() {
		b := otherBytes(l)
		room := slices.Concat(b, b)
		for k := range b {
			checkRead(t, b[:k], nil, 0, api.ErrShort)
			checkRead(t, slices.Clone(b[:k]), nil, 0, api.ErrShort)
			checkRead(t, room[:k:k], nil, 0, api.ErrShort)
		}
		checkRead(t, b, l, len(b), api.OK)
		for _, more := range []int{1, 2, 8, 15, 16, 17, 256, 65536} {
			for _, rest := range [][]byte{make([]byte, more), bytes.Repeat([]byte{255}, more), some(r, more)} {
				checkRead(t, slices.Concat(b, rest), l, len(b), api.OK)
			}
		}
	}
}

// TestReadOfEachNumberOfThem: any first byte, with too few bytes behind it, just so many, and more; what is behind it rises or doesn't.
func TestReadOfEachNumberOfThem(t *testing.T) {
	r := rand.New(rand.NewPCG(414, 415))
	rises := otherBytes(rightOne(r, 300, false))[1:]
	falls := make([]byte, len(rises))
	for many := range 256 {
		for _, has := range []int{0, 1, 8, 15, 16, 17, 32, 16*many - 16, 16*many - 1, 16 * many, 16*many + 1, 16*many + 16, 16 * 64, 16 * 65, 16 * 300} {
			if has < 0 {
				continue
			}
			want, wantFalls := api.OK, api.OK
			switch {
			case many > 64:
				want, wantFalls = api.ErrForm, api.ErrForm
			case has < 16*many:
				want, wantFalls = api.ErrShort, api.ErrShort
			case many > 1:
				wantFalls = api.ErrForm
			}
			for _, x := range []struct {
				body []byte
				e    api.Errno
			}{{rises, want}, {falls, wantFalls}} {
				b := slices.Concat([]byte{byte(many)}, x.body[:has])
				if e := checkReadAlike(t, b); e != x.e {
					t.Errorf("a first byte %d, and %d behind it: %v, want %v", many, has, e, x.e)
				}
			}
		}
	}
}

// TestReadOfWrongOnes: the bytes that lists which aren't right would have. From 256 on, the first byte tells fewer.
func TestReadOfWrongOnes(t *testing.T) {
	for _, l := range wrongOnes() {
		b := otherBytes(l)
		if len(l) < 256 {
			checkRead(t, b, nil, 0, api.ErrForm)
			checkRead(t, append(b, 1, 2, 3), nil, 0, api.ErrForm)
		}
		if len(l) <= most {
			// That they are too few comes ahead of their not being right.
			checkRead(t, b[:len(b)-1], nil, 0, api.ErrShort)
		}
		checkReadAlike(t, b)
	}
	for _, l := range smallOnes() {
		checkReadAlike(t, otherBytes(l))
	}
}

// TestReadAsTheChapterSays: lists' bytes with a place changed, put in or left away, and bytes by chance.
func TestReadAsTheChapterSays(t *testing.T) {
	r := rand.New(rand.NewPCG(416, 417))
	codes := map[api.Errno]int{}
	for range 20000 {
		b := otherBytes(rightOne(r, r.IntN(8), r.IntN(2) == 0))
		at := r.IntN(len(b))
		switch r.IntN(5) {
		case 0:
			b[at] = byte(r.Uint32())
		case 1:
			b = slices.Delete(b, at, at+1)
		case 2:
			b = slices.Insert(b, at, byte(r.Uint32()))
		case 3:
			b = append([]byte{byte(r.IntN(5))}, some(r, r.IntN(70))...)
		case 4:
			b[0] = byte(r.IntN(12))
		}
		codes[checkReadAlike(t, b)]++
	}
	for _, e := range []api.Errno{api.OK, api.ErrShort, api.ErrForm} {
		if codes[e] < 500 {
			t.Errorf("%v was told only %d times", e, codes[e])
		}
	}
}

// P15.3

// TestPutOneBehindTheOther: what was put is there, and nothing else; full, nothing new comes in.
func TestPutOneBehindTheOther(t *testing.T) {
	r := rand.New(rand.NewPCG(418, 419))
	for _, kinds := range []uint64{2, 5, 8, 9, 12, 1 << 30} {
		set := map[api.Gone]bool{}
		var l []api.Gone
		for range 400 {
			g := of(r.Uint64N(kinds), r.Uint64N(kinds))
			got, e := gone.Put(l, g)
			if len(set) == most && !set[g] {
				if e != api.ErrFull || len(got) != 0 {
					t.Fatalf("Put of what is new into a full list: %v, %v", got, e)
				}
				continue
			}
			set[g] = true
			if e != api.OK || !slices.Equal(got, ordered(set)) || !gone.Right(got) {
				t.Fatalf("behind %v, %v is put: %v, %v", l, g, got, e)
			}
			l = got
			for x := range set {
				if !gone.Has(l, x) {
					t.Fatalf("%v was put, and isn't in %v", x, l)
				}
			}
			if other := of(r.Uint64N(kinds+1), r.Uint64N(kinds+1)); gone.Has(l, other) != set[other] {
				t.Fatalf("Has(%v, %v) = %v", l, other, !set[other])
			}
		}
		if want := min(kinds*kinds, most); uint64(len(l)) != want {
			t.Errorf("of %d numbers, %d are there", kinds, len(l))
		}
	}
}

// TestPutInAnyOrder: whatever comes first, the list is the same.
func TestPutInAnyOrder(t *testing.T) {
	r := rand.New(rand.NewPCG(420, 421))
	for _, want := range rightOnes() {
		for range 5 {
			var l []api.Gone
			for _, k := range append(r.Perm(len(want)), r.Perm(len(want))...) {
				got, e := gone.Put(l, want[k])
				if e != api.OK {
					t.Fatalf("Put(%v, %v): %v", l, want[k], e)
				}
				l = got
			}
			if !slices.Equal(l, want) {
				t.Errorf("put in another order, %v came as %v", want, l)
			}
		}
	}
}

// TestBack: lists are read as they were, and bytes that are read are just those of the list.
func TestBack(t *testing.T) {
	r := rand.New(rand.NewPCG(422, 423))
	lists := rightOnes()
	for n := range most + 1 {
		lists = append(lists, rightOne(r, n, n%2 == 0))
	}
	for _, l := range lists {
		b, e := gone.Bytes(l)
		if e != api.OK || len(b) != 1+16*len(l) {
			t.Fatalf("Bytes(%v) = %v, %v", l, b, e)
		}
		checkRead(t, b, l, len(b), api.OK)
		checkRead(t, append(b, some(r, 20)...), l, 1+16*len(l), api.OK)
	}
	for range 20000 {
		b := some(r, 1+r.IntN(60))
		b[0] %= 5
		l, n, e := gone.Read(b)
		if e != api.OK {
			continue
		}
		checkBytes(t, l, b[:n], api.OK)
	}
}

// TestUnlikeListsHaveUnlikeBytes: of all small lists that are right, none has another one's, nor a beginning of them.
func TestUnlikeListsHaveUnlikeBytes(t *testing.T) {
	var all [][]byte
	for _, l := range smallOnes() {
		if b, e := gone.Bytes(l); e == api.OK {
			all = append(all, b)
		}
	}
	if len(all) != 256 {
		t.Fatalf("%d small lists have bytes", len(all))
	}
	for i, a := range all {
		for k, b := range all {
			if i != k && bytes.HasPrefix(a, b) {
				t.Errorf("%v begins with another list's bytes %v", a, b)
			}
		}
	}
}

// The rules that hold everywhere.

// spoil a list in all its room.
func spoil(l []api.Gone) {
	l = l[:cap(l)]
	for k := range l {
		l[k] = of(77, 77)
	}
}

// spoilBytes in all their room.
func spoilBytes(b []byte) {
	b = b[:cap(b)]
	for k := range b {
		b[k] ^= 85
	}
}

// TestPutIsNewMemory: spoiling the answer leaves what was handed in, its spare room too, and the other way.
func TestPutIsNewMemory(t *testing.T) {
	rest := list(91, 92, 93, 94, 95, 96)
	for _, l := range append(rightOnes(), wrongOnes()...) {
		for _, g := range append(list(0, 0, 7, 0, math.MaxUint64, math.MaxUint64), l...) {
			want, _ := otherPut(l, g)
			whole := slices.Concat(l, rest)
			room := slices.Clone(whole)
			got, _ := gone.Put(room[:len(l)], g)
			spoil(got)
			if !slices.Equal(room, whole) {
				t.Fatalf("Put(%v, %v) shares what was handed in: %v", l, g, room)
			}
			got, _ = gone.Put(room[:len(l)], g)
			spoil(room)
			if !slices.Equal(got, want) {
				t.Fatalf("Put(%v, %v) keeps what was handed in: %v", l, g, got)
			}
		}
	}
}

func TestBytesAndReadAreNewMemory(t *testing.T) {
	for _, l := range rightOnes() {
		room := slices.Concat(l, list(91, 92))
		one, _ := gone.Bytes(room[:len(l)])
		other, _ := gone.Bytes(room[:len(l)])
		spoilBytes(one)
		spoil(room)
		if want := otherBytes(l); !bytes.Equal(other, want) {
			t.Errorf("Bytes(%v) came as %v", l, other)
		}
		b := slices.Concat(otherBytes(l), []byte("behind"))
		was := slices.Clone(b)
		first, _, _ := gone.Read(b)
		second, _, _ := gone.Read(b)
		spoil(first)
		if !bytes.Equal(b, was) {
			t.Errorf("what was read of %v shares memory: %v", was, b)
		}
		spoilBytes(b)
		if !slices.Equal(second, l) {
			t.Errorf("what was read of %v came as %v", was, second)
		}
	}
}
