package cache_test

import (
	"bytes"
	"encoding/binary"
	"math"
	"math/rand/v2"
	"slices"
	"testing"

	"wristband/api"
	"wristband/cache"
)

// most room that a cache may have.
const most = 64

// use of a ticket, an epoch and a counter.
func use(ticket, epoch, counter uint64) api.Use {
	return api.Use{Ticket: ticket, Epoch: epoch, Counter: counter}
}

// of a room, a floor, and what was seen.
func of(room int, floor uint64, seen ...api.Use) api.Cache {
	return api.Cache{Room: room, Floor: floor, Seen: seen}
}

// deep copy of a cache, all of its spare room included.
func deep(c api.Cache) api.Cache {
	n := len(c.Seen)
	c.Seen = slices.Clone(c.Seen[:cap(c.Seen)])[:n]
	return c
}

// same caches, a list that is nil being an empty one?
func same(a, b api.Cache) bool {
	return a.Room == b.Room && a.Floor == b.Floor && slices.Equal(a.Seen, b.Seen)
}

// number by chance, of any length.
func number(r *rand.Rand) uint64 {
	return r.Uint64() >> r.IntN(65)
}

// numbersOf a use, as bytes, which stand in the order of what they are of.
func numbersOf(u api.Use) []byte {
	b := binary.BigEndian.AppendUint64(nil, u.Ticket)
	b = binary.BigEndian.AppendUint64(b, u.Epoch)
	return binary.BigEndian.AppendUint64(b, u.Counter)
}

// otherLess: by their bytes.
func otherLess(a, b api.Use) bool {
	return bytes.Compare(numbersOf(a), numbersOf(b)) < 0
}

// otherRight holds each two uses together, not just neighbours.
func otherRight(c api.Cache) bool {
	if c.Room < 0 || c.Room > most || c.Room < len(c.Seen) {
		return false
	}
	for i, u := range c.Seen {
		for k := range i {
			if !otherLess(c.Seen[k], u) {
				return false
			}
		}
		if u.Counter < c.Floor {
			return false
		}
	}
	return true
}

// ordered: what stands in a set, the least first.
func ordered(set map[api.Use]bool) []api.Use {
	l := []api.Use{}
	for u := range set {
		at := 0
		for at < len(l) && otherLess(l[at], u) {
			at++
		}
		l = slices.Insert(l, at, u)
	}
	return l
}

// setOf what a cache has seen.
func setOf(c api.Cache) map[api.Use]bool {
	set := map[api.Use]bool{}
	for _, u := range c.Seen {
		set[u] = true
	}
	return set
}

// otherPut asks in the chapter's order, and puts into a set.
func otherPut(c api.Cache, u api.Use) (api.Cache, api.Errno) {
	set := setOf(c)
	if !otherRight(c) {
		return c, api.ErrArg
	}
	if u.Counter < c.Floor {
		return c, api.ErrWindow
	}
	if set[u] {
		return c, api.ErrSeen
	}
	if len(set) >= c.Room {
		return c, api.ErrFull
	}
	set[u] = true
	return of(c.Room, c.Floor, ordered(set)...), api.OK
}

// otherRaise takes from a set what is below.
func otherRaise(c api.Cache, floor uint64) (api.Cache, api.Errno) {
	if !otherRight(c) {
		return c, api.ErrArg
	}
	if floor <= c.Floor {
		return c, api.OK
	}
	set := setOf(c)
	for u := range setOf(c) {
		if u.Counter < floor {
			delete(set, u)
		}
	}
	return of(c.Room, floor, ordered(set)...), api.OK
}

// checkPut: what Put answers, and that what is handed in stays.
func checkPut(t *testing.T, c api.Cache, u api.Use, want api.Cache, wantE api.Errno) {
	t.Helper()
	was := deep(c)
	if got, e := cache.Put(c, u); !same(got, want) || e != wantE {
		t.Fatalf("Put(%v, %v) = %v, %v, want %v, %v", was, u, got, e, want, wantE)
	}
	if !same(c, was) {
		t.Fatalf("Put(%v, %v) left %v", was, u, c)
	}
}

// checkPutAlike: what Put answers is what a set has, too.
func checkPutAlike(t *testing.T, c api.Cache, u api.Use) api.Errno {
	t.Helper()
	want, wantE := otherPut(deep(c), u)
	checkPut(t, c, u, want, wantE)
	return wantE
}

// checkRaise: what Raise answers, and that what is handed in stays.
func checkRaise(t *testing.T, c api.Cache, floor uint64, want api.Cache, wantE api.Errno) {
	t.Helper()
	was := deep(c)
	if got, e := cache.Raise(c, floor); !same(got, want) || e != wantE {
		t.Fatalf("Raise(%v, %d) = %v, %v, want %v, %v", was, floor, got, e, want, wantE)
	}
	if !same(c, was) {
		t.Fatalf("Raise(%v, %d) left %v", was, floor, c)
	}
}

// checkRaiseAlike: what Raise answers is what is left of a set, too.
func checkRaiseAlike(t *testing.T, c api.Cache, floor uint64) {
	t.Helper()
	want, wantE := otherRaise(deep(c), floor)
	checkRaise(t, c, floor, want, wantE)
}

// smallLists: all lists of at most four uses, of eight kinds.
func smallLists() [][]api.Use {
	all := [][]api.Use{nil}
	last := all
	for range 4 {
		var next [][]api.Use
		for _, l := range last {
			for _, u := range smallUses() {
				next = append(next, slices.Concat(l, []api.Use{u}))
			}
		}
		all = append(all, next...)
		last = next
	}
	return all
}

// smallUses: of numbers that are 0 or 1.
func smallUses() []api.Use {
	var l []api.Use
	for k := range uint64(8) {
		l = append(l, use(k>>2, k>>1&1, k&1))
	}
	return l
}

// smallOnes: caches of all small lists, of little room and low floors.
func smallOnes() []api.Cache {
	var l []api.Cache
	for _, seen := range smallLists() {
		for _, room := range []int{-1, 0, 1, 2, 3, 4, 64, 65} {
			for floor := range uint64(3) {
				l = append(l, of(room, floor, seen...))
			}
		}
	}
	return l
}

// rightOne by chance, of so many; few says that many of them share a ticket, or its epoch, too.
func rightOne(r *rand.Rand, room, many int, floor uint64, few bool) api.Cache {
	set := map[api.Use]bool{}
	for len(set) < many {
		u := use(number(r), number(r), floor+number(r)%(math.MaxUint64-floor))
		if few {
			u.Ticket, u.Epoch = u.Ticket%3, u.Epoch%3
		}
		set[u] = true
	}
	return of(room, floor, ordered(set)...)
}

// rightOnes: none seen, a few, as many as there is room; of one ticket, of one epoch, of numbers at their ends.
func rightOnes() []api.Cache {
	top := uint64(math.MaxUint64)
	l := []api.Cache{
		{}, {Room: 64}, {Room: 0, Floor: top}, {Room: 64, Floor: 7, Seen: []api.Use{}},
		of(1, 0, use(0, 0, 0)), of(1, 10, use(5, 1, 10)), of(64, 9, use(5, 1, 10)), of(1, top, use(top, top, top)),
		of(2, 0, use(5, 1, 10), use(5, 1, 11)), of(2, 0, use(5, 1, 10), use(5, 2, 9)), of(2, 0, use(5, 2, 10), use(6, 1, 9)),
		of(3, 0, use(0, 0, 0), use(1<<63, 0, 0), use(top, top, top)),
		of(2, 0, use(0, top, top), use(1, 0, 0)), of(2, 0, use(0, 0, top), use(0, 1, 0)),
		of(2, 0, use(1<<63-1, 0, 0), use(1<<63, 0, 0)), of(2, 0, use(0, 1<<32-1, 0), use(0, 1<<32, 0)), of(2, 0, use(0, 0, 255), use(0, 0, 256)),
	}
	r := rand.New(rand.NewPCG(1900, 1901))
	for _, many := range []int{1, 2, 3, 10, 31, 32, 33, 62, 63, 64} {
		for _, floor := range []uint64{0, 1, 300, 1 << 63} {
			l = append(l, rightOne(r, many, many, floor, true), rightOne(r, many, many, floor, false), rightOne(r, most, many, floor, true))
		}
	}
	return l
}

// wrongOnes: of no such room, with too many, two alike, a greater one ahead of a less one, or below the floor.
func wrongOnes() []api.Cache {
	top := uint64(math.MaxUint64)
	l := []api.Cache{
		{Room: -1}, {Room: 65}, {Room: math.MinInt}, {Room: math.MaxInt}, {Room: -64, Floor: 9}, {Room: 64 + 1<<32}, {Room: 256},
		of(0, 0, use(0, 0, 0)), of(-1, 0, use(0, 0, 0)), of(1, 0, use(0, 0, 0), use(0, 0, 1)), of(65, 0, use(5, 1, 10)),
		of(2, 0, use(5, 1, 10), use(5, 1, 10)), of(2, 0, use(5, 1, 11), use(5, 1, 10)),
		of(2, 0, use(5, 2, 10), use(5, 1, 11)), of(2, 0, use(6, 1, 10), use(5, 2, 11)), of(2, 0, use(1<<63, 0, 0), use(1, 0, 0)),
		of(3, 0, use(1, 1, 1), use(3, 3, 3), use(2, 2, 2)), of(3, 0, use(1, 1, 1), use(2, 2, 2), use(1, 1, 1)),
		of(1, 11, use(5, 1, 10)), of(1, 1, use(top, top, 0)), of(1, top, use(top, top, top-1)), of(64, 2, use(5, 1, 2), use(5, 2, 1), use(6, 1, 2)),
	}
	r := rand.New(rand.NewPCG(1902, 1903))
	for _, many := range []int{2, 10, 63, 64} {
		for _, few := range []bool{true, false} {
			full := rightOne(r, many, many, 300, few)
			l = append(l, of(many-1, 300, full.Seen...))
			for k := range many {
				low := deep(full)
				low.Seen[k].Counter = 299
				l = append(l, low)
			}
			for k := range many - 1 {
				swapped, twice := deep(full), deep(full)
				swapped.Seen[k], swapped.Seen[k+1] = swapped.Seen[k+1], swapped.Seen[k]
				twice.Seen[k+1] = twice.Seen[k]
				l = append(l, swapped, twice)
			}
		}
	}
	for _, many := range []int{65, 128, 256, 300, 320} {
		l = append(l, rightOne(r, many, many, 0, true), rightOne(r, most, many, 0, false))
	}
	return l
}

// near uses: those of a cache, and those about them.
func near(c api.Cache) []api.Use {
	l := []api.Use{use(0, 0, 0), use(5, 1, 10), use(0, 0, c.Floor), use(0, 0, c.Floor-1), use(math.MaxUint64, math.MaxUint64, math.MaxUint64)}
	for _, u := range c.Seen {
		l = append(l, u, use(u.Ticket+1, u.Epoch, u.Counter), use(u.Ticket, u.Epoch-1, u.Counter), use(u.Ticket, u.Epoch, u.Counter+1),
			use(u.Ticket, u.Epoch, u.Counter-1), use(u.Epoch, u.Ticket, u.Counter), use(u.Ticket, u.Epoch, c.Floor), use(u.Ticket, u.Epoch^1<<63, u.Counter))
	}
	return l
}

// P19.1

func TestNew(t *testing.T) {
	for _, room := range []int{0, 1, 2, 31, 63, 64} {
		if c, e := cache.New(room); e != api.OK || !same(c, of(room, 0)) {
			t.Errorf("New(%d) = %v, %v", room, c, e)
		}
	}
	for room := -300; room <= 400; room++ {
		c, e := cache.New(room)
		want, wantE := of(room, 0), api.OK
		if room < 0 || room > most {
			want, wantE = api.Cache{}, api.ErrArg
		}
		if !same(c, want) || e != wantE || !cache.Right(c) {
			t.Errorf("New(%d) = %v, %v", room, c, e)
		}
	}
	for _, room := range []int{math.MinInt, math.MaxInt, math.MinInt32, 1 << 32, 1<<32 + 5, -1 << 32, 256, 256 + 64, 1 << 62} {
		if c, e := cache.New(room); !same(c, api.Cache{}) || e != api.ErrArg {
			t.Errorf("New(%d) = %v, %v", room, c, e)
		}
	}
}

func TestRight(t *testing.T) {
	for _, c := range rightOnes() {
		if !cache.Right(c) || !otherRight(c) {
			t.Errorf("Right(%v) = %v", c, cache.Right(c))
		}
	}
	for _, c := range wrongOnes() {
		if cache.Right(c) || otherRight(c) {
			t.Errorf("Right(%v) = %v", c, cache.Right(c))
		}
	}
}

func TestRightOfSmallOnes(t *testing.T) {
	right := 0
	for _, c := range smallOnes() {
		want := otherRight(c)
		if want {
			right++
		}
		if cache.Right(c) != want {
			t.Fatalf("Right(%v) = %v", c, !want)
		}
	}
	// With the floor 0, all eight kinds may be; with 1, four of them; with 2, none. So many ways there are to take some of them.
	want := 0
	for _, n := range [][5]int{{1, 8, 28, 56, 70}, {1, 4, 6, 4, 1}, {1, 0, 0, 0, 0}} {
		sum := 0
		for k := range n {
			sum += n[k]
			// With room for four there is room for all lists of these, as with 64.
			want += sum
		}
		want += sum
	}
	if right != want {
		t.Errorf("%d small caches are right, want %d", right, want)
	}
}

// TestRightOfEachRoom: with so many seen as there is room, and one more.
func TestRightOfEachRoom(t *testing.T) {
	row := []api.Use{}
	for k := range uint64(300) {
		row = append(row, use(k/9, k/3%3, k%3))
	}
	for room := -3; room < 300; room++ {
		for n := range row {
			want := room >= 0 && room <= most && n <= room
			if cache.Right(of(room, 0, row[:n]...)) != want {
				t.Fatalf("Right = %v with room %d, and %d seen", !want, room, n)
			}
		}
	}
}

// TestRightOfEachBit: two uses that are unlike in one bit of one number, in either order.
func TestRightOfEachBit(t *testing.T) {
	r := rand.New(rand.NewPCG(1904, 1905))
	top := uint64(math.MaxUint64)
	for k := range 64 {
		for range 20 {
			less, x, y := number(r)&^(1<<k), number(r), number(r)
			greater := less | 1<<k
			for _, l := range [][]api.Use{
				{use(less, x, y), use(greater, x, y)}, {use(x, less, y), use(x, greater, y)}, {use(x, y, less), use(x, y, greater)},
				// The ticket comes ahead of the epoch, and this one ahead of the counter.
				{use(less, top, x), use(greater, 0, x)}, {use(less, x, top), use(greater, x, 0)}, {use(x, less, top), use(x, greater, 0)},
				{use(less, greater, y), use(greater, less, y)}, {use(x, less, greater), use(x, greater, less)},
			} {
				if c := of(2, 0, l...); !cache.Right(c) {
					t.Errorf("Right(%v) = false", c)
				}
				if c := of(2, 0, l[1], l[0]); cache.Right(c) {
					t.Errorf("Right(%v) = true", c)
				}
			}
		}
	}
}

// TestRightOfEachFloor: a counter may be at the floor, and not below it, whichever of those seen has it.
func TestRightOfEachFloor(t *testing.T) {
	for k := range 64 {
		for _, floor := range []uint64{1 << k, 1<<k - 1, 1<<k + 1, -(1 << k)} {
			for at := range 3 {
				c := of(3, floor, use(1, 0, math.MaxUint64), use(2, 0, math.MaxUint64), use(3, 0, math.MaxUint64))
				c.Seen[at].Counter = floor
				if !cache.Right(c) {
					t.Errorf("Right(%v) = false", c)
				}
				c.Seen[at].Counter = floor - 1
				if want := floor == 0; cache.Right(c) != want {
					t.Errorf("Right(%v) = %v", c, !want)
				}
			}
		}
	}
}

// TestHas: in any cache, right or not.
func TestHas(t *testing.T) {
	for _, c := range append(rightOnes(), wrongOnes()...) {
		there := setOf(c)
		was := deep(c)
		for _, u := range near(c) {
			if cache.Has(c, u) != there[u] {
				t.Fatalf("Has(%v, %v) = %v", c, u, !there[u])
			}
		}
		if !same(c, was) {
			t.Errorf("Has left %v as %v", was, c)
		}
	}
}

func TestHasOfSmallOnes(t *testing.T) {
	for _, c := range smallOnes() {
		for k := range uint64(12) {
			u := use(k>>2, k>>1&1, k&1)
			want := false
			for _, x := range c.Seen {
				want = want || x.Ticket == u.Ticket && x.Epoch == u.Epoch && x.Counter == u.Counter
			}
			if cache.Has(c, u) != want {
				t.Fatalf("Has(%v, %v) = %v", c, u, !want)
			}
		}
	}
}

// TestHasAsFarAsTheListGoes: spare room behind it is not looked at.
func TestHasAsFarAsTheListGoes(t *testing.T) {
	row := []api.Use{use(1, 1, 1), use(2, 2, 2), use(3, 3, 3)}
	for n := range row {
		for k, u := range row {
			if cache.Has(of(3, 0, row[:n]...), u) != (k < n) {
				t.Errorf("Has(%v, %v) = %v", row[:n], u, k >= n)
			}
		}
	}
}

// P19.2

func TestPut(t *testing.T) {
	five := use(5, 1, 10)
	checkPut(t, of(2, 0), five, of(2, 0, five), api.OK)
	checkPut(t, of(2, 10), five, of(2, 10, five), api.OK)
	checkPut(t, of(2, 11), five, of(2, 11), api.ErrWindow)
	checkPut(t, of(2, 0, five), five, of(2, 0, five), api.ErrSeen)
	checkPut(t, of(2, 0, five), use(5, 1, 9), of(2, 0, use(5, 1, 9), five), api.OK)
	checkPut(t, of(2, 0, five), use(5, 1, 11), of(2, 0, five, use(5, 1, 11)), api.OK)
	checkPut(t, of(2, 0, five), use(5, 0, 11), of(2, 0, use(5, 0, 11), five), api.OK)
	checkPut(t, of(2, 0, five), use(4, 2, 11), of(2, 0, use(4, 2, 11), five), api.OK)
	checkPut(t, of(2, 0, five), use(1<<63, 0, 0), of(2, 0, five, use(1<<63, 0, 0)), api.OK)
	checkPut(t, of(1, 0, five), use(5, 1, 11), of(1, 0, five), api.ErrFull)
	checkPut(t, of(3, 0, use(1, 1, 1), use(9, 9, 9)), five, of(3, 0, use(1, 1, 1), five, use(9, 9, 9)), api.OK)
	checkPut(t, of(65, 0), five, of(65, 0), api.ErrArg)
}

// TestPutWithoutRoom: every use is ErrFull, or ErrWindow.
func TestPutWithoutRoom(t *testing.T) {
	r := rand.New(rand.NewPCG(1906, 1907))
	for range 5000 {
		floor, u := number(r), use(number(r), number(r), number(r))
		want := api.ErrFull
		if u.Counter < floor {
			want = api.ErrWindow
		}
		checkPut(t, of(0, floor), u, of(0, floor), want)
	}
}

// TestPutTellsTheFirst of several errors.
func TestPutTellsTheFirst(t *testing.T) {
	one, two := use(5, 1, 10), use(5, 1, 11)
	for _, x := range []struct {
		c    api.Cache
		u    api.Use
		want api.Errno
	}{
		// It isn't right, and below the floor, or seen, or full, or all of it.
		{of(-1, 20), one, api.ErrArg},
		{of(65, 0, one), one, api.ErrArg},
		{of(1, 0, one, two), use(9, 9, 9), api.ErrArg},
		{of(1, 11, one), one, api.ErrArg},
		{of(2, 0, two, one), one, api.ErrArg},
		{of(2, 0, one, one), one, api.ErrArg},
		{of(1, 20, two, one), one, api.ErrArg},
		// Below the floor, and full.
		{of(0, 11), one, api.ErrWindow},
		{of(1, 11, two), one, api.ErrWindow},
		{of(1, 11, use(5, 1, 20)), use(9, 9, 10), api.ErrWindow},
		// Seen, and full.
		{of(1, 0, one), one, api.ErrSeen},
		{of(2, 10, one, two), one, api.ErrSeen},
		{of(2, 10, one, two), two, api.ErrSeen},
		// Just full.
		{of(2, 10, one, two), use(5, 1, 12), api.ErrFull},
		{of(2, 10, one, two), use(0, 0, 10), api.ErrFull},
	} {
		checkPut(t, x.c, x.u, x.c, x.want)
	}
}

func TestPutOfSmallOnes(t *testing.T) {
	told := map[api.Errno]int{}
	for _, c := range smallOnes() {
		for _, u := range smallUses() {
			told[checkPutAlike(t, c, u)]++
		}
	}
	for _, e := range []api.Errno{api.OK, api.ErrArg, api.ErrWindow, api.ErrSeen, api.ErrFull} {
		if told[e] == 0 {
			t.Errorf("%v was never told", e)
		}
	}
}

// TestPutAtEachPlace: all that a cache lacks is put back, wherever it stood; all that it has is seen.
func TestPutAtEachPlace(t *testing.T) {
	for _, c := range rightOnes() {
		for k, u := range c.Seen {
			checkPut(t, c, u, c, api.ErrSeen)
			without := of(c.Room, c.Floor, slices.Delete(slices.Clone(c.Seen), k, k+1)...)
			checkPut(t, without, u, c, api.OK)
		}
		for _, u := range near(c) {
			checkPutAlike(t, c, u)
		}
	}
}

// TestPutOfAFullOne, whatever its room is: nothing may be put; with one less, anything that isn't there.
func TestPutOfAFullOne(t *testing.T) {
	r := rand.New(rand.NewPCG(1908, 1909))
	for room := 1; room <= most; room++ {
		full := rightOne(r, room, room, 300, room%2 == 0)
		other := use(number(r), 1<<63, 300)
		checkPut(t, full, other, full, api.ErrFull)
		k := r.IntN(room)
		one := of(room, 300, slices.Delete(slices.Clone(full.Seen), k, k+1)...)
		if got, e := cache.Put(one, other); e != api.OK || len(got.Seen) != room || !cache.Has(got, other) || !cache.Right(got) {
			t.Errorf("%v, put into %d of %d: %v, %v", other, room-1, room, got, e)
		}
		checkPutAlike(t, one, other)
	}
}

func TestPutOfWrongOnes(t *testing.T) {
	for _, c := range wrongOnes() {
		for _, u := range near(c) {
			checkPut(t, c, u, c, api.ErrArg)
		}
	}
}

func TestRaise(t *testing.T) {
	one, two, three := use(5, 1, 12), use(6, 1, 10), use(6, 1, 11)
	c := of(3, 5, one, two, three)
	checkRaise(t, c, 0, c, api.OK)
	checkRaise(t, c, 4, c, api.OK)
	checkRaise(t, c, 5, c, api.OK)
	checkRaise(t, c, 6, of(3, 6, one, two, three), api.OK)
	checkRaise(t, c, 10, of(3, 10, one, two, three), api.OK)
	checkRaise(t, c, 11, of(3, 11, one, three), api.OK)
	checkRaise(t, c, 12, of(3, 12, one), api.OK)
	checkRaise(t, c, 13, of(3, 13), api.OK)
	checkRaise(t, c, math.MaxUint64, of(3, math.MaxUint64), api.OK)
	checkRaise(t, of(0, 7), 1<<63, of(0, 1<<63), api.OK)
	checkRaise(t, of(0, 1<<63), 7, of(0, 1<<63), api.OK)
	checkRaise(t, of(0, math.MaxUint64), 0, of(0, math.MaxUint64), api.OK)
	// The floor of one that isn't right stays, and what is below it, too.
	checkRaise(t, of(3, 11, one, two), 5, of(3, 11, one, two), api.ErrArg)
	checkRaise(t, of(3, 11, one, two), 12, of(3, 11, one, two), api.ErrArg)
	checkRaise(t, of(65, 0), 12, of(65, 0), api.ErrArg)
}

func TestRaiseOfSmallOnes(t *testing.T) {
	for _, c := range smallOnes() {
		for floor := range uint64(4) {
			checkRaiseAlike(t, c, floor)
		}
	}
}

// TestRaiseToEachFloor that is at a counter of those seen, or beside it.
func TestRaiseToEachFloor(t *testing.T) {
	for _, c := range rightOnes() {
		floors := []uint64{0, 1, c.Floor - 1, c.Floor, c.Floor + 1, 1 << 63, math.MaxUint64}
		for _, u := range c.Seen {
			floors = append(floors, u.Counter-1, u.Counter, u.Counter+1)
		}
		for _, floor := range floors {
			checkRaiseAlike(t, c, floor)
		}
	}
}

func TestRaiseOfWrongOnes(t *testing.T) {
	for _, c := range wrongOnes() {
		for _, floor := range []uint64{0, 1, 299, 300, 301, c.Floor, math.MaxUint64} {
			checkRaise(t, c, floor, c, api.ErrArg)
		}
	}
}

// P19.3

// life of a cache: what was put into it, and how far its floor came.
type life struct {
	cache api.Cache
	put   map[api.Use]bool
	floor uint64
}

// step by chance, of few numbers: a use is put, or the floor raised, now and then to one that is lower.
func (l *life) step(r *rand.Rand) api.Errno {
	if r.IntN(6) == 0 {
		floor := l.floor + r.Uint64N(5) - min(l.floor, 2)
		c, e := cache.Raise(l.cache, floor)
		l.cache, l.floor = c, max(l.floor, floor)
		return e
	}
	u := use(r.Uint64N(3), r.Uint64N(2), l.floor+r.Uint64N(8)-min(l.floor, 3))
	c, e := cache.Put(l.cache, u)
	if e == api.OK {
		if l.put[u] {
			return api.ErrArg
		}
		l.put[u] = true
	}
	l.cache = c
	return e
}

// check that the cache is right, has its floor, has of what was put all that isn't below it, nothing else, and takes none of it again.
func (l *life) check(t *testing.T) {
	t.Helper()
	if !cache.Right(l.cache) || l.cache.Floor != l.floor {
		t.Fatalf("%v isn't right, or its floor isn't %d", l.cache, l.floor)
	}
	for _, u := range l.cache.Seen {
		if !l.put[u] {
			t.Fatalf("%v, which wasn't put, was seen: %v", u, l.cache)
		}
	}
	for u := range l.put {
		want := api.ErrSeen
		if u.Counter < l.floor {
			want = api.ErrWindow
		}
		if _, e := cache.Put(l.cache, u); e != want || cache.Has(l.cache, u) != (want == api.ErrSeen) {
			t.Fatalf("%v, put again into %v: %v", u, l.cache, e)
		}
	}
}

// TestNeverPutAgain, over lives by chance of any room.
func TestNeverPutAgain(t *testing.T) {
	r := rand.New(rand.NewPCG(1910, 1911))
	for k := range 260 {
		c, _ := cache.New(k % (most + 1))
		l := &life{cache: c, put: map[api.Use]bool{}}
		full, below := 0, 0
		for range 120 {
			switch e := l.step(r); e {
			case api.ErrArg:
				t.Fatalf("a use was put twice, or a right cache told so: %v", l.cache)
			case api.ErrFull:
				full++
			case api.ErrWindow:
				below++
			}
			l.check(t)
		}
		if below == 0 || full == 0 && c.Room < 3 {
			t.Errorf("a life of room %d had %d below the floor, and %d too many", c.Room, below, full)
		}
	}
}

// TestWhatWasNotPutWasNotSeen: no use but those that were put is told as seen, whichever it is.
func TestWhatWasNotPutWasNotSeen(t *testing.T) {
	r := rand.New(rand.NewPCG(1912, 1913))
	for range 100 {
		c, _ := cache.New(most)
		put := map[api.Use]bool{}
		for range r.IntN(most + 1) {
			u := use(number(r), number(r), number(r))
			c, _ = cache.Put(c, u)
			put[u] = true
		}
		for _, u := range near(c) {
			if cache.Has(c, u) != put[u] {
				t.Fatalf("Has(%v, %v) = %v", c, u, !put[u])
			}
			if _, e := cache.Put(c, u); (e == api.ErrSeen) != put[u] {
				t.Fatalf("Put(%v, %v) tells %v", c, u, e)
			}
		}
	}
}

// TestOrderOfPuttingDoesNotMatter: however they come, what was seen stands alike.
func TestOrderOfPuttingDoesNotMatter(t *testing.T) {
	r := rand.New(rand.NewPCG(1914, 1915))
	for many := range most + 1 {
		want := rightOne(r, most, many, 0, many%2 == 0)
		for range 5 {
			got, _ := cache.New(most)
			for _, k := range r.Perm(many) {
				got, _ = cache.Put(got, want.Seen[k])
			}
			if !same(got, want) {
				t.Fatalf("put by chance: %v, want %v", got, want)
			}
		}
	}
}

// The rules that hold everywhere.

// spoil all that a cache has seen, its spare room, too.
func spoil(c api.Cache) {
	l := c.Seen[:cap(c.Seen)]
	for k := range l {
		l[k] = use(85, 85, 85)
	}
}

// TestAnswersAreNewMemory, beside an error, too, and the spare room of what is handed in stays.
func TestAnswersAreNewMemory(t *testing.T) {
	calls := []func(c api.Cache) (api.Cache, api.Errno){
		func(c api.Cache) (api.Cache, api.Errno) { return cache.Put(c, use(5, 1, 1<<40)) },
		func(c api.Cache) (api.Cache, api.Errno) { return cache.Put(c, use(0, 0, 0)) },
		func(c api.Cache) (api.Cache, api.Errno) { return cache.Put(c, use(math.MaxUint64, 0, math.MaxUint64)) },
		func(c api.Cache) (api.Cache, api.Errno) {
			return cache.Put(c, append(slices.Clone(c.Seen), use(5, 1, 10))[0])
		},
		func(c api.Cache) (api.Cache, api.Errno) { return cache.Raise(c, 0) },
		func(c api.Cache) (api.Cache, api.Errno) { return cache.Raise(c, c.Floor) },
		func(c api.Cache) (api.Cache, api.Errno) { return cache.Raise(c, 1<<40) },
		func(c api.Cache) (api.Cache, api.Errno) { return cache.Raise(c, math.MaxUint64) },
	}
	for _, c := range append(rightOnes(), wrongOnes()...) {
		for k, call := range calls {
			whole := of(c.Room, c.Floor, slices.Concat(c.Seen, []api.Use{use(7, 7, 7), use(8, 8, 8), use(9, 9, 9)})...)
			part, was := whole, deep(whole)
			part.Seen = whole.Seen[:len(c.Seen)]
			want, _ := call(part)
			want = deep(want)
			got, _ := call(part)
			spoil(got)
			if !same(whole, was) {
				t.Fatalf("call %d of %v shares what was handed in: %v", k, c, whole)
			}
			got, _ = call(part)
			spoil(whole)
			if !same(got, want) {
				t.Fatalf("call %d of %v keeps what was handed in: %v", k, c, got)
			}
		}
	}
}
