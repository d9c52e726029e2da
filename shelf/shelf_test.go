package shelf_test

import (
	"bytes"
	"math"
	"math/rand/v2"
	"slices"
	"strconv"
	"testing"

	"wristband/api"
	"wristband/cache"
	"wristband/disk"
	"wristband/shelf"
)

// P20.1

func TestRightMemory(t *testing.T) {
	for i, m := range memories() {
		if !shelf.RightMemory(m) || !otherRightMemory(m) {
			t.Errorf("%d: a right memory is told to be wrong", i)
		}
		for _, clock := range []uint64{0, 1, 1 << 62, top} {
			m.Clock = clock
			if !shelf.RightMemory(m) {
				t.Errorf("%d: the clock %d is told to be wrong", i, clock)
			}
		}
	}
	for i, m := range wrongMemories() {
		if shelf.RightMemory(m) || otherRightMemory(m) {
			t.Errorf("%d: a wrong memory is told to be right", i)
		}
	}
}

// TestHasByHand: a disk's bytes, told one by one.
func TestHasByHand(t *testing.T) {
	text := []byte{
		77,
		0, 0, 0, 0, 0, 0, 1, 2,
		0, 0, 0, 0, 0, 0, 0, 3,
		4,
		0, 0, 0, 0, 0, 0, 0, 5,
		2,
		0, 0, 0, 0, 0, 0, 0, 6, 0, 0, 0, 0, 0, 0, 0, 7, 0, 0, 0, 0, 0, 0, 0, 8,
		0, 0, 0, 0, 0, 0, 0, 9, 0, 0, 0, 0, 0, 0, 0, 10, 0, 0, 0, 0, 0, 0, 0, 11,
		66,
		0, 0, 0, 0, 0, 0, 0, 12,
		1,
		0, 0, 0, 0, 0, 0, 0, 13, 0, 0, 0, 0, 0, 0, 0, 14, 2, 15, 16,
		1,
		0, 0, 0, 0, 0, 0, 0, 17, 0, 0, 0, 0, 0, 0, 0, 18,
	}
	m := api.Memory{
		Clock:  3,
		Bundle: api.Bundle{Version: 12, Entries: []api.Entry{{Ticket: 13, Epoch: 14, Seed: []byte{15, 16}}}, Gone: []api.Gone{{Ticket: 17, Epoch: 18}}},
		Cache:  api.Cache{Room: 4, Floor: 5, Seen: []api.Use{use(6, 7, 8), use(9, 10, 11)}},
	}
	used := []byte{
		85,
		0, 0, 0, 0, 0, 0, 0, 19, 0, 0, 0, 0, 0, 0, 0, 20, 0, 0, 0, 0, 0, 0, 0, 21,
		0, 0, 0, 0, 0, 0, 0, 22,
		0, 0, 0, 0, 0, 0, 0, 11,
	}
	installed := []byte{78, 66, 0, 0, 0, 0, 0, 0, 0, 13, 0, 0}
	d := of(area(row(text)), api.Area{})
	want := api.Shelf{Disk: d, Number: 258, Memory: m}
	got, e := shelf.Has(d)
	check(t, "Has", want, want, got, e, want, api.OK)

	d = of(api.Area{}, area(row(text, used, installed)))
	m = api.Memory{Clock: 22, Bundle: api.Bundle{Version: 13}, Cache: api.Cache{Room: 4, Floor: 11, Seen: []api.Use{use(9, 10, 11), use(19, 20, 21)}}}
	want = api.Shelf{Disk: d, Turn: 1, Number: 258, Memory: m}
	got, e = shelf.Has(d)
	check(t, "Has", want, want, got, e, want, api.OK)
	checkRight(t, want, true)
}

// nothings: bytes of areas that have nothing.
func nothings() [][]byte {
	m := memories()[2]
	good := memoryText(7, m)
	l := [][]byte{
		nil, {0}, []byte("nobody's bytes, and no slips"), row(nil), row(nil, good), row([]byte{77}, good),
		row(useText(use(1, 2, 3), 4, 0), good), row(bundleText(bundleOf(9, 1, 1, 0)), good),
		row(append(slices.Clone(good), 0)), row(append(slices.Clone(good), good...)), row(append([]byte{0}, good...)),
		slices.Concat([]byte{0}, row(good)), slices.Concat(otherSlip(good)[:9], row(good)),
	}
	for n := range good {
		l = append(l, row(good[:n]), row(good[:n], good))
	}
	for _, m := range wrongMemories() {
		if m.Cache.Room != 256+3 && m.Cache.Room != -253 && m.Cache.Room != 256 {
			l = append(l, row(memoryText(7, m), good))
		}
	}
	for mark := range 256 {
		if mark != 77 {
			l = append(l, row(append([]byte{byte(mark)}, good[1:]...)))
		}
	}
	return l
}

func TestHasNothing(t *testing.T) {
	for i, b := range nothings() {
		for _, d := range []api.Disk{of(area(b), api.Area{}), of(api.Area{}, area(b)), of(area(b), area(b))} {
			got, e := shelf.Has(d)
			if e != api.ErrNone || !same(got, api.Shelf{Disk: d}) {
				t.Fatalf("%d: a disk of nothing has %s, %v", i, told(got), e)
			}
			checkHas(t, d)
			checkRight(t, api.Shelf{Disk: d}, false)
		}
		// What one area has doesn't hang on the other one.
		beside := area(row(memoryText(0, memories()[3])))
		for turn, d := range []api.Disk{of(beside, area(b)), of(area(b), beside)} {
			if got, e := checkHas(t, d); e != api.OK || got.Turn != turn || !sameMemory(got.Memory, memories()[3]) {
				t.Fatalf("%d: beside nothing stands %s, %v", i, told(got), e)
			}
		}
	}
}

func TestHas(t *testing.T) {
	for _, s := range shelves() {
		got, e := shelf.Has(s.Disk)
		check(t, "Has", s, s, got, e, s, api.OK)
		checkHas(t, s.Disk)
	}
}

// TestHasTheGreaterNumber: of alike ones that of area 0, and any number may be.
func TestHasTheGreaterNumber(t *testing.T) {
	numbers := []uint64{0, 1, 2, 255, 256, 1<<32 - 1, 1 << 32, mostNumber - 1, mostNumber, mostNumber + 1, 1<<63 - 1, 1 << 63, top - 1, top}
	m, n := memories()[2], memories()[3]
	for _, a := range numbers {
		for _, b := range numbers {
			d := of(area(row(memoryText(a, m))), area(row(memoryText(b, n))))
			want := api.Shelf{Disk: d, Turn: 0, Number: a, Memory: m}
			if b > a {
				want = api.Shelf{Disk: d, Turn: 1, Number: b, Memory: n}
			}
			got, e := shelf.Has(d)
			check(t, "Has", want, want, got, e, want, api.OK)
		}
	}
}

// TestHasOfAnyDisk: whatever else a disk is, it has what its bytes say.
func TestHasOfAnyDisk(t *testing.T) {
	for _, sure := range []int{0, 1, -1, 100000, math.MinInt, math.MaxInt} {
		for _, fuse := range []int{-1, 0, 3, -2, math.MinInt} {
			for _, down := range []bool{false, true} {
				d := one().Disk
				d.Areas[0].Sure, d.Areas[1].Sure = sure, sure
				d.Fuse, d.Keep, d.Down = fuse, -fuse, down
				if s, e := checkHas(t, d); e != api.OK || s.Number != 7 || s.Memory.Clock != 310 {
					t.Fatalf("Has = %s, %v", told(s), e)
				}
				d.Areas = [2]api.Area{{Sure: sure}, {Bytes: []byte{1}, Sure: sure}}
				if s, e := checkHas(t, d); e != api.ErrNone {
					t.Fatalf("Has = %s, %v", told(s), e)
				}
			}
		}
	}
	long := slices.Concat(row(memoryText(1, memories()[0])), make([]byte, mostArea))
	if s, e := checkHas(t, of(area(long), api.Area{})); e != api.OK || s.Number != 1 {
		t.Fatalf("Has = %s, %v", told(s), e)
	}
}

// stops: texts by which the memory of stopped doesn't go on.
func stops() [][]byte {
	good := useText(use(6, 1, 12), 300, 9)
	next := bundleText(bundleOf(3, 2, 4, 1))
	l := [][]byte{
		nil, {85}, {78}, {77},
		useText(use(6, 1, 12), 299, 9), useText(use(6, 1, 12), 0, 9),
		useText(use(5, 1, 10), 300, 9), useText(use(5, 1, 10), 300, 10), useText(use(5, 1, 10), 300, 0),
		useText(use(6, 1, 8), 300, 0), useText(use(6, 1, 8), 300, 9), useText(use(6, 1, 12), 300, 13), useText(use(6, 1, 0), 300, top),
		append(slices.Clone(good), 0), append(slices.Clone(good), good...), append([]byte{85}, good...), good[1:],
		bundleText(bundleOf(2, 2, 4, 1)), bundleText(bundleOf(2, 3, 4, 0)), bundleText(bundleOf(1, 2, 4, 1)), bundleText(bundleOf(0, 0, 0, 0)),
		append(slices.Clone(next), 0), append(slices.Clone(next), next[1:]...), next[1:], append([]byte{78}, next...),
		bundleText(bundleOf(3, 1, 33, 0)), bundleText(bundleOf(3, 1, 0, 0)), bundleText(bundleOf(3, 65, 1, 0)), bundleText(bundleOf(3, 0, 0, 65)),
		bundleText(api.Bundle{Version: 3, Gone: []api.Gone{{Ticket: 5}, {Ticket: 5}}}),
		memoryText(9, stopped()), memoryText(7, stopped()), memoryText(8, api.Memory{Clock: 900, Cache: api.Cache{Room: 64}}),
	}
	for n := range good {
		l = append(l, good[:n])
	}
	for n := range next {
		l = append(l, next[:n])
	}
	for mark := range 256 {
		if mark != 85 {
			l = append(l, append([]byte{byte(mark)}, good[1:]...))
		}
		if mark != 78 {
			l = append(l, append([]byte{byte(mark)}, next[1:]...))
		}
	}
	return l
}

// stopped: a memory with room for one more.
func stopped() api.Memory {
	return api.Memory{Clock: 300, Bundle: bundleOf(2, 2, 4, 1), Cache: api.Cache{Room: 2, Floor: 9, Seen: []api.Use{use(5, 1, 10)}}}
}

// TestHasStops at a text by which it doesn't go on, whatever is behind.
func TestHasStops(t *testing.T) {
	m := stopped()
	good := useText(use(6, 1, 12), 300, 9)
	next := bundleText(bundleOf(3, 2, 4, 1))
	for i, stop := range stops() {
		for _, texts := range [][][]byte{{stop}, {stop, good}, {stop, next}, {stop, next, good}} {
			s := kept(0, 7, m, api.Area{}, texts...)
			s.Memory = m
			got, e := shelf.Has(s.Disk)
			check(t, "stop "+strconv.Itoa(i)+": Has", s, s, got, e, s, api.OK)
			checkHas(t, s.Disk)
			checkRight(t, s, false)
		}
	}
	full := kept(0, 7, m, api.Area{}, good)
	for _, texts := range [][][]byte{{useText(use(6, 1, 13), 300, 9)}, {useText(use(6, 1, 13), 300, 10), useText(use(5, 1, 10), 300, 9)}} {
		s := kept(0, 7, m, api.Area{}, slices.Concat([][]byte{good}, texts, [][]byte{useText(use(7, 1, 90), 400, 50)})...)
		s.Memory = full.Memory
		got, e := shelf.Has(s.Disk)
		check(t, "Has of a full one", s, s, got, e, s, api.OK)
		checkRight(t, s, false)
	}
}

// TestHasGoesOn by each text by which it does.
func TestHasGoesOn(t *testing.T) {
	m := stopped()
	seen := func(floor uint64, l ...api.Use) api.Cache { return api.Cache{Room: 2, Floor: floor, Seen: l} }
	first, second := use(5, 1, 10), use(6, 1, 12)
	for i, x := range []struct {
		texts [][]byte
		want  api.Memory
	}{
		{nil, m},
		{[][]byte{useText(second, 300, 9)}, api.Memory{Clock: 300, Bundle: m.Bundle, Cache: seen(9, first, second)}},
		{[][]byte{useText(second, 301, 0)}, api.Memory{Clock: 301, Bundle: m.Bundle, Cache: seen(9, first, second)}},
		{[][]byte{useText(second, top, 10)}, api.Memory{Clock: top, Bundle: m.Bundle, Cache: seen(10, first, second)}},
		{[][]byte{useText(second, 300, 11)}, api.Memory{Clock: 300, Bundle: m.Bundle, Cache: seen(11, second)}},
		{[][]byte{useText(second, 300, 12)}, api.Memory{Clock: 300, Bundle: m.Bundle, Cache: seen(12, second)}},
		{[][]byte{useText(second, 300, 9), useText(use(4, 4, 13), 300, 11)}, api.Memory{Clock: 300, Bundle: m.Bundle, Cache: seen(11, use(4, 4, 13), second)}},
		{[][]byte{bundleText(bundleOf(3, 0, 0, 0))}, api.Memory{Clock: 300, Bundle: api.Bundle{Version: 3}, Cache: m.Cache}},
		{[][]byte{bundleText(bundleOf(top, 64, 32, 64))}, api.Memory{Clock: 300, Bundle: bundleOf(top, 64, 32, 64), Cache: m.Cache}},
		{[][]byte{bundleText(bundleOf(3, 1, 1, 0)), useText(second, 305, 9), bundleText(bundleOf(9, 0, 0, 2))},
			api.Memory{Clock: 305, Bundle: bundleOf(9, 0, 0, 2), Cache: seen(9, first, second)}},
	} {
		s := kept(1, 7, m, api.Area{}, x.texts...)
		s.Memory = x.want
		got, e := shelf.Has(s.Disk)
		check(t, strconv.Itoa(i)+": Has", s, s, got, e, s, api.OK)
		checkRight(t, s, true)
	}
}

// TestHasOfEachCut: of bytes that end anywhere.
func TestHasOfEachCut(t *testing.T) {
	s := kept(0, 7, memories()[2], area(row(memoryText(6, memories()[3]))), onwards(memories()[2])...)
	for n := range s.Disk.Areas[0].Bytes {
		d := deepDisk(s.Disk)
		d.Areas[0] = area(d.Areas[0].Bytes[:n])
		has, _ := checkHas(t, d)
		texts, whole := otherRow(d.Areas[0].Bytes)
		if (len(texts) > 0) != (has.Turn == 0) {
			t.Fatalf("cut to %d: %s", n, told(has))
		}
		checkRight(t, has, has.Turn == 1 || whole)
	}
}

// TestHasOfEachBit: of rows a bit of which is another one, and of texts likewise, each with its sum.
func TestHasOfEachBit(t *testing.T) {
	m := memories()[2]
	texts := append([][]byte{memoryText(7, m)}, onwards(m)...)
	beside := area(row(memoryText(6, memories()[3])))
	whole := row(texts...)
	for k := range 8 * len(whole) {
		b := slices.Clone(whole)
		b[k/8] ^= 1 << (k % 8)
		has, _ := checkHas(t, of(area(b), beside))
		checkRight(t, has, has.Turn == 1)
	}
	right := 0
	for i, text := range texts {
		for k := range 8 * len(text) {
			l := slices.Clone(texts)
			l[i] = slices.Clone(text)
			l[i][k/8] ^= 1 << (k % 8)
			d := of(area(row(l...)), beside)
			has, _ := checkHas(t, d)
			is := otherRight(has)
			checkRight(t, has, is)
			if is && has.Turn == 0 {
				right++
			}
		}
	}
	if right == 0 {
		t.Error("no text with another bit is one by which it goes on")
	}
}

// TestHasOfEachByte of a memory's record that tells a kind, or how many there are.
func TestHasOfEachByte(t *testing.T) {
	for _, m := range []api.Memory{memories()[2], memories()[5]} {
		text := memoryText(7, m)
		bundle := 27 + 24*len(m.Cache.Seen)
		for _, at := range []int{0, 26, bundle, bundle + 9, bundle + 26, len(text) - 16*len(m.Bundle.Gone) - 1} {
			for c := range 256 {
				b := slices.Clone(text)
				b[at] = byte(c)
				for _, more := range [][]byte{nil, make([]byte, 24), {66, 0, 0, 0, 0, 0, 0, 0, 9, 0, 0}} {
					_, e := checkHas(t, of(area(row(slices.Concat(b, more))), api.Area{}))
					if at <= 26 && (e == api.OK) != (b[at] == text[at] && more == nil) {
						t.Fatalf("the byte %d at %d, and %d more: %v", c, at, len(more), e)
					}
				}
			}
		}
		for c := range 256 {
			b := slices.Clone(text)
			b[17] = byte(c)
			if has, e := checkHas(t, of(area(row(b)), api.Area{})); (e == api.OK) != (c <= 64 && c >= len(m.Cache.Seen)) || e == api.OK && has.Memory.Cache.Room != c {
				t.Fatalf("the room %d: %s, %v", c, told(has), e)
			}
		}
	}
}

func TestRight(t *testing.T) {
	for _, s := range shelves() {
		checkRight(t, s, true)
		for _, fuse := range []int{0, 1, math.MaxInt} {
			checkRight(t, set(s, fuse, fuse), true)
		}
	}
	checkRight(t, api.Shelf{}, false)
	checkRight(t, api.Shelf{Disk: disk.New()}, false)
}

// changes of an ordinary shelf, each of which makes it wrong.
func changes() []func(s *api.Shelf) {
	return []func(s *api.Shelf){
		func(s *api.Shelf) { s.Disk.Fuse = -2 },
		func(s *api.Shelf) { s.Disk.Keep = -1 },
		func(s *api.Shelf) { s.Disk.Down = true },
		func(s *api.Shelf) { s.Disk.Areas[0].Sure-- },
		func(s *api.Shelf) { s.Disk.Areas[0].Sure++ },
		func(s *api.Shelf) { s.Disk.Areas[0].Sure = 0 },
		func(s *api.Shelf) { s.Disk.Areas[1].Sure = -1 },
		func(s *api.Shelf) { s.Disk.Areas[1].Sure = 10000 },
		func(s *api.Shelf) { s.Disk.Areas[1] = api.Area{Bytes: make([]byte, mostArea+1)} },
		func(s *api.Shelf) { s.Disk.Areas[0] = api.Area{} },
		func(s *api.Shelf) { s.Disk.Areas[0], s.Disk.Areas[1] = s.Disk.Areas[1], s.Disk.Areas[0] },
		func(s *api.Shelf) { s.Disk.Areas[0] = area(append(s.Disk.Areas[0].Bytes, 0)) },
		func(s *api.Shelf) { s.Disk.Areas[0] = area(append(s.Disk.Areas[0].Bytes, row(nil)...)) },
		func(s *api.Shelf) {
			s.Disk.Areas[0] = area(append(s.Disk.Areas[0].Bytes, otherSlip(useText(use(6, 6, 60), 310, 0))...))
		},
		func(s *api.Shelf) { s.Disk.Areas[0] = area(s.Disk.Areas[0].Bytes[:len(s.Disk.Areas[0].Bytes)-1]) },
		func(s *api.Shelf) { s.Disk.Areas[0] = area(s.Disk.Areas[0].Bytes[:len(s.Disk.Areas[0].Bytes)-useSize]) },
		func(s *api.Shelf) { s.Disk.Areas[0].Bytes[50] ^= 1 },
		func(s *api.Shelf) { s.Disk.Areas[1] = area(row(memoryText(8, s.Memory))) },
		func(s *api.Shelf) { s.Turn = 1 },
		func(s *api.Shelf) { s.Turn = -1 },
		func(s *api.Shelf) { s.Turn = 2 },
		func(s *api.Shelf) { s.Turn = math.MinInt },
		func(s *api.Shelf) { s.Turn = 1 << 32 },
		func(s *api.Shelf) { s.Number = 6 },
		func(s *api.Shelf) { s.Number = 8 },
		func(s *api.Shelf) { s.Number = 7 + 1<<62 },
		func(s *api.Shelf) { s.Number = 7 + 1<<63 },
		func(s *api.Shelf) { s.Memory = api.Memory{} },
		func(s *api.Shelf) { s.Memory.Clock++ },
		func(s *api.Shelf) { s.Memory.Clock-- },
		func(s *api.Shelf) { s.Memory.Clock += 1 << 63 },
		func(s *api.Shelf) { s.Memory.Cache.Room++ },
		func(s *api.Shelf) { s.Memory.Cache.Room-- },
		func(s *api.Shelf) { s.Memory.Cache.Room += 256 },
		func(s *api.Shelf) { s.Memory.Cache.Room -= 256 },
		func(s *api.Shelf) { s.Memory.Cache.Floor++ },
		func(s *api.Shelf) { s.Memory.Cache.Floor-- },
		func(s *api.Shelf) { s.Memory.Cache.Seen = nil },
		func(s *api.Shelf) { s.Memory.Cache.Seen = s.Memory.Cache.Seen[:1] },
		func(s *api.Shelf) { s.Memory.Cache.Seen = append(s.Memory.Cache.Seen, use(9, 9, 99)) },
		func(s *api.Shelf) { s.Memory.Cache.Seen[0].Ticket-- },
		func(s *api.Shelf) { s.Memory.Cache.Seen[1].Epoch++ },
		func(s *api.Shelf) { s.Memory.Cache.Seen[1].Counter++ },
		func(s *api.Shelf) { slices.Reverse(s.Memory.Cache.Seen) },
		func(s *api.Shelf) { s.Memory.Bundle = api.Bundle{} },
		func(s *api.Shelf) { s.Memory.Bundle.Version++ },
		func(s *api.Shelf) { s.Memory.Bundle.Version-- },
		func(s *api.Shelf) { s.Memory.Bundle.Entries = s.Memory.Bundle.Entries[:1] },
		func(s *api.Shelf) { s.Memory.Bundle.Entries[0].Epoch++ },
		func(s *api.Shelf) { s.Memory.Bundle.Entries[1].Ticket++ },
		func(s *api.Shelf) { s.Memory.Bundle.Entries[1].Seed[3]++ },
		func(s *api.Shelf) { s.Memory.Bundle.Entries[1].Seed = s.Memory.Bundle.Entries[1].Seed[:3] },
		func(s *api.Shelf) { s.Memory.Bundle.Entries[1].Seed = nil },
		func(s *api.Shelf) { slices.Reverse(s.Memory.Bundle.Entries) },
		func(s *api.Shelf) { s.Memory.Bundle.Gone = nil },
		func(s *api.Shelf) { s.Memory.Bundle.Gone[0].Ticket++ },
		func(s *api.Shelf) { s.Memory.Bundle.Gone[0].Epoch-- },
		func(s *api.Shelf) { s.Memory.Bundle.Gone = append(s.Memory.Bundle.Gone, s.Memory.Bundle.Gone...) },
	}
}

// wrongOnes: shelves that aren't right.
func wrongOnes() []api.Shelf {
	l := []api.Shelf{{}, {Disk: disk.New()}, {Disk: api.Disk{Down: true}}}
	for _, change := range changes() {
		s := deep(one())
		change(&s)
		l = append(l, s)
	}
	m := memories()[2]
	for _, number := range []uint64{mostNumber + 1, 1 << 63, top} {
		l = append(l, kept(0, number, m, api.Area{}), kept(1, number, m, api.Area{}))
	}
	// Both areas have the same: the disk has what area 0 has.
	l = append(l, kept(1, 7, m, area(row(memoryText(7, m)))))
	for _, m := range wrongMemories() {
		l = append(l, kept(0, 7, m, api.Area{}))
	}
	return l
}

func TestRightOfWrongOnes(t *testing.T) {
	checkRight(t, one(), true)
	for i, s := range wrongOnes() {
		if shelf.Right(s) {
			t.Fatalf("%d: a wrong shelf is told to be right: %s", i, told(s))
		}
		checkRight(t, s, false)
	}
}

// TestRightOfNilAndEmpty: a list is nil or empty alike.
func TestRightOfNilAndEmpty(t *testing.T) {
	s := kept(0, 1, api.Memory{}, api.Area{})
	checkRight(t, s, true)
	s.Memory.Cache.Seen = []api.Use{}
	s.Memory.Bundle.Entries = []api.Entry{}
	s.Memory.Bundle.Gone = []api.Gone{}
	s.Disk.Areas[1].Bytes = []byte{}
	checkRight(t, s, true)
}

// TestRightOfUnsureOnes: how many bytes are sure, of both areas.
func TestRightOfUnsureOnes(t *testing.T) {
	s := one()
	for sure := range len(s.Disk.Areas[0].Bytes) + 3 {
		s.Disk.Areas[0].Sure = sure
		checkRight(t, s, sure == len(s.Disk.Areas[0].Bytes))
	}
	s = one()
	for sure := range len(s.Disk.Areas[1].Bytes) + 3 {
		s.Disk.Areas[1].Sure = sure
		checkRight(t, s, sure <= len(s.Disk.Areas[1].Bytes))
	}
}

// P20.2

// TestOpenExample: a new disk, opened, told byte by byte.
func TestOpenExample(t *testing.T) {
	got, e := shelf.Open(disk.New(), 5)
	text := slices.Concat([]byte{77, 0, 0, 0, 0, 0, 0, 0, 1}, make([]byte, 8), []byte{5}, make([]byte, 8), []byte{0, 66}, make([]byte, 10))
	want := api.Shelf{Disk: of(area(otherSlip(text)), api.Area{}), Number: 1, Memory: api.Memory{Cache: api.Cache{Room: 5}}}
	check(t, "Open", want, want, got, e, want, api.OK)
	got, e = shelf.Open(got.Disk, 9)
	text[8] = 2
	want.Disk.Areas[1] = area(otherSlip(text))
	want.Turn, want.Number = 1, 2
	check(t, "Open", want, want, got, e, want, api.OK)
	got, e = shelf.Open(got.Disk, 0)
	text[8] = 3
	want.Disk.Areas[0] = area(otherSlip(text))
	want.Turn, want.Number = 0, 3
	check(t, "Open", want, want, got, e, want, api.OK)
}

func TestOpenOfEachRoom(t *testing.T) {
	rooms := []int{math.MinInt, math.MinInt + 5, -256, 256, 256 + 5, 1 << 32, math.MaxInt}
	for room := -70; room < 140; room++ {
		rooms = append(rooms, room)
	}
	for _, room := range rooms {
		got, e := checkOpen(t, disk.New(), room)
		if room < 0 || room > 64 {
			if e != api.ErrArg || !same(got, api.Shelf{Disk: disk.New()}) {
				t.Fatalf("Open(.., %d) = %s, %v", room, told(got), e)
			}
		} else if e != api.OK || got.Memory.Cache.Room != room || got.Number != 1 || got.Turn != 0 {
			t.Fatalf("Open(.., %d) = %s, %v", room, told(got), e)
		}
		checkRight(t, got, e == api.OK)
		// What is there already has its room.
		got, e = checkOpen(t, one().Disk, room)
		if (e == api.OK) != (0 <= room && room <= 64) || e == api.OK && got.Memory.Cache.Room != 3 {
			t.Fatalf("Open(.., %d) = %s, %v", room, told(got), e)
		}
	}
}

func TestOpen(t *testing.T) {
	for _, s := range shelves() {
		got, e := checkOpen(t, s.Disk, 7)
		if s.Number == mostNumber {
			if e != api.ErrMost || !same(got, api.Shelf{Disk: s.Disk}) {
				t.Fatalf("Open of %s = %s, %v", told(s), told(got), e)
			}
			continue
		}
		if e != api.OK || got.Turn != 1-s.Turn || got.Number != s.Number+1 || !sameMemory(got.Memory, s.Memory) {
			t.Fatalf("Open of %s = %s, %v", told(s), told(got), e)
		}
		b := row(memoryText(got.Number, s.Memory))
		if a := got.Disk.Areas[got.Turn]; !bytes.Equal(a.Bytes, b) || a.Sure != len(b) || !sameDisk(s.Disk, withArea(got.Disk, got.Turn, s.Disk.Areas[got.Turn])) {
			t.Fatalf("Open of %s wrote %s", told(s), told(got))
		}
		checkRight(t, got, true)
	}
}

// withArea: a disk with another area.
func withArea(d api.Disk, k int, a api.Area) api.Disk {
	d.Areas[k] = a
	return d
}

// TestOpenOfNothing: whatever bytes are there, the first one is written into area 0.
func TestOpenOfNothing(t *testing.T) {
	for i, b := range nothings() {
		for _, d := range []api.Disk{of(area(b), area(b)), of(area(b), api.Area{}), of(api.Area{Bytes: b}, area(b))} {
			got, e := checkOpen(t, d, 3)
			if e != api.OK || got.Turn != 0 || got.Number != 1 || !sameMemory(got.Memory, api.Memory{Cache: api.Cache{Room: 3}}) {
				t.Fatalf("%d: Open = %s, %v", i, told(got), e)
			}
			checkRight(t, got, true)
		}
	}
}

// TestOpenOfCutOnes: behind what is whole there are bytes, or some aren't sure.
func TestOpenOfCutOnes(t *testing.T) {
	whole := row(memoryText(7, memories()[2]), useText(use(77, 1, 20), 300, 0))
	for n := range whole {
		for _, sure := range []int{0, n / 2, n} {
			d := of(api.Area{}, api.Area{Bytes: whole[:n], Sure: sure})
			got, e := checkOpen(t, d, 4)
			if e != api.OK {
				t.Fatalf("Open = %s, %v", told(got), e)
			}
			checkRight(t, got, true)
		}
	}
}

// TestOpenTellsTheFirst error.
func TestOpenTellsTheFirst(t *testing.T) {
	full := kept(1, mostNumber, memories()[2], api.Area{}).Disk
	for _, wrong := range []bool{false, true} {
		for _, room := range []int{3, -1, 65} {
			for _, down := range []bool{false, true} {
				for _, most := range []bool{false, true} {
					for fuse := -1; fuse < 4; fuse++ {
						d := disk.New()
						if most {
							d = deepDisk(full)
						}
						d.Fuse, d.Down = fuse, down
						if wrong {
							d.Areas[0].Sure = 9
						}
						want := api.OK
						switch {
						case wrong || room != 3:
							want = api.ErrArg
						case down:
							want = api.ErrDown
						case most:
							want = api.ErrMost
						case fuse >= 0 && fuse < 3:
							want = api.ErrDown
						}
						if got, e := checkOpen(t, d, room); e != want {
							t.Fatalf("Open(.., %d) = %s, %v, want %v", room, told(got), e, want)
						}
					}
				}
			}
		}
	}
}

// TestOpenOfWrongDisks: they are as they were.
func TestOpenOfWrongDisks(t *testing.T) {
	for _, change := range []func(d *api.Disk){
		func(d *api.Disk) { d.Fuse = -2 },
		func(d *api.Disk) { d.Keep = -1 },
		func(d *api.Disk) { d.Areas[0].Sure = -1 },
		func(d *api.Disk) { d.Areas[1].Sure = 9999 },
		func(d *api.Disk) { d.Areas[1].Bytes = make([]byte, mostArea+1) },
		func(d *api.Disk) { d.Areas[1].Sure, d.Down = 9999, true },
	} {
		d := deepDisk(one().Disk)
		change(&d)
		if got, e := checkOpen(t, d, 3); e != api.ErrArg || !same(got, api.Shelf{Disk: d}) {
			t.Fatalf("Open = %s, %v", told(got), e)
		}
	}
}

// TestOpenAtTheGreatestNumber: the last one that may be, and those above it.
func TestOpenAtTheGreatestNumber(t *testing.T) {
	for _, x := range []struct {
		number uint64
		want   api.Errno
	}{
		{mostNumber - 2, api.OK}, {mostNumber - 1, api.OK}, {mostNumber, api.ErrMost}, {mostNumber + 1, api.ErrMost}, {1<<63 - 1, api.ErrMost}, {top - 1, api.ErrMost}, {top, api.ErrMost},
	} {
		for turn := range 2 {
			d := kept(turn, x.number, memories()[2], api.Area{}).Disk
			got, e := checkOpen(t, d, 3)
			if e != x.want || e == api.OK && got.Number != x.number+1 {
				t.Fatalf("Open of the number %d = %s, %v", x.number, told(got), e)
			}
			checkRight(t, got, e == api.OK)
		}
	}
}

// hasEither: the disk has the memory ahead of a step, or that behind it (none, if there was none ahead).
func hasEither(t *testing.T, d api.Disk, ahead, next *api.Memory) {
	t.Helper()
	has, e := shelf.Has(d)
	if e != api.OK {
		if ahead != nil {
			t.Fatalf("the disk has nothing any more: %s", told(has))
		}
		return
	}
	if (ahead == nil || !sameMemory(has.Memory, *ahead)) && !sameMemory(has.Memory, *next) {
		t.Fatalf("the disk has another memory: %s", told(has))
	}
}

// keeps: how many bytes may be kept, of a text of so many.
func keeps(n int) []int {
	l := []int{n + 1, n + 1000, math.MaxInt}
	for k := 0; k <= n; k += 1 + n/50 {
		l = append(l, k)
	}
	return append(l, n-1, n)
}

// TestOpenPowerGoes at each step, with so many bytes kept.
func TestOpenPowerGoes(t *testing.T) {
	for _, ahead := range []api.Shelf{{Disk: disk.New()}, one(), kept(1, 9, memories()[5], area(row(memoryText(8, memories()[2])))), kept(0, 1, memories()[3], api.Area{})} {
		next, e := shelf.Open(ahead.Disk, 3)
		if e != api.OK {
			t.Fatal(e)
		}
		var was *api.Memory
		if ahead.Number > 0 {
			was = &ahead.Memory
		}
		for fuse := range 5 {
			for _, keep := range keeps(len(next.Disk.Areas[next.Turn].Bytes)) {
				got, e := checkOpen(t, set(ahead, fuse, keep).Disk, 3)
				if (e == api.ErrDown) != (fuse < 3) || got.Disk.Down != (fuse < 3) {
					t.Fatalf("Open with the fuse %d = %s, %v", fuse, told(got), e)
				}
				if e == api.ErrDown && !same(got, api.Shelf{Disk: got.Disk}) {
					t.Fatalf("Open with the fuse %d told %s", fuse, told(got))
				}
				hasEither(t, got.Disk, was, &next.Memory)
			}
		}
	}
}

// P20.3

func TestTake(t *testing.T) {
	s := one()
	got, e := checkTake(t, s, use(4, 1, 12), 320, 10)
	want := deep(s)
	want.Disk.Areas[0] = area(slices.Concat(s.Disk.Areas[0].Bytes, row(useText(use(4, 1, 12), 320, 10))))
	want.Memory.Clock = 320
	want.Memory.Cache = api.Cache{Room: 3, Floor: 10, Seen: []api.Use{use(4, 1, 12), use(5, 1, 10), use(5, 1, 11)}}
	check(t, "Take", s, s, got, e, want, api.OK)
	s = got
	got, e = checkTake(t, s, use(4, 1, 12), 320, 9)
	check(t, "Take", s, s, got, e, s, api.ErrSeen)
	got, e = checkTake(t, s, use(4, 1, 13), 320, 11)
	if e != api.OK || !slices.Equal(got.Memory.Cache.Seen, []api.Use{use(4, 1, 12), use(4, 1, 13), use(5, 1, 11)}) {
		t.Errorf("Take = %s, %v", told(got), e)
	}
	// The record has the floor that was told, though the cache's is greater.
	s = one()
	got, e = checkTake(t, s, use(6, 6, 9), 310, 0)
	tail := row(useText(use(6, 6, 9), 310, 0))
	if e != api.OK || got.Memory.Cache.Floor != 9 || !bytes.HasSuffix(got.Disk.Areas[0].Bytes, tail) {
		t.Errorf("Take = %s, %v", told(got), e)
	}
}

// TestTakeTellsTheFirst error: of a shelf that is wrong or not, an old clock or not, and what cache.Put tells.
func TestTakeTellsTheFirst(t *testing.T) {
	full := kept(0, 7, api.Memory{Clock: 300, Cache: api.Cache{Room: 2, Floor: 9, Seen: []api.Use{use(5, 1, 10), use(5, 1, 11)}}}, api.Area{})
	for _, x := range []struct {
		u     api.Use
		floor uint64
		want  api.Errno
	}{
		{use(5, 1, 10), 9, api.ErrSeen}, {use(5, 1, 10), 10, api.ErrSeen}, {use(5, 1, 10), 0, api.ErrSeen},
		{use(5, 1, 10), 11, api.ErrWindow}, {use(5, 1, 8), 0, api.ErrWindow}, {use(5, 1, 8), 9, api.ErrWindow}, {use(7, 7, top-1), top, api.ErrWindow},
		{use(5, 1, 12), 10, api.ErrFull}, {use(5, 1, 9), 0, api.ErrFull},
		{use(5, 1, 12), 11, api.OK}, {use(5, 1, 11), 11, api.ErrSeen}, {use(5, 1, 11), 12, api.ErrWindow}, {use(5, 1, top), top, api.OK},
	} {
		for _, clock := range []uint64{300, 301, top} {
			if got, e := checkTake(t, full, x.u, clock, x.floor); e != x.want || e != api.OK && !same(got, full) {
				t.Fatalf("Take(.., %v, %d, %d) = %s, %v, want %v", x.u, clock, x.floor, told(got), e, x.want)
			}
		}
		for _, clock := range []uint64{0, 299} {
			if got, e := checkTake(t, full, x.u, clock, x.floor); e != api.ErrOld || !same(got, full) {
				t.Fatalf("Take(.., %v, %d, %d) = %s, %v", x.u, clock, x.floor, told(got), e)
			}
			wrong := deep(full)
			wrong.Memory.Bundle.Version++
			if got, e := checkTake(t, wrong, x.u, clock, x.floor); e != api.ErrArg || !same(got, wrong) {
				t.Fatalf("Take(.., %v, %d, %d) = %s, %v", x.u, clock, x.floor, told(got), e)
			}
		}
	}
}

// TestTakeWithoutRoom: every use is one too many.
func TestTakeWithoutRoom(t *testing.T) {
	s, _ := shelf.Open(disk.New(), 0)
	for _, x := range []struct {
		counter, floor uint64
		want           api.Errno
	}{{0, 0, api.ErrFull}, {5, 5, api.ErrFull}, {4, 5, api.ErrWindow}, {top, 0, api.ErrFull}} {
		if _, e := checkTake(t, s, use(1, 1, x.counter), 0, x.floor); e != x.want {
			t.Errorf("Take of the counter %d above %d: %v, want %v", x.counter, x.floor, e, x.want)
		}
	}
}

func TestTakeOfAll(t *testing.T) {
	for _, s := range shelves() {
		m := s.Memory
		for _, u := range []api.Use{use(0, 0, 0), use(5, 1, 10), use(99, 1, m.Cache.Floor), use(top, top, top), use(3, 3, m.Cache.Floor-1)} {
			for _, clock := range []uint64{m.Clock, m.Clock - 1, top} {
				for _, floor := range []uint64{0, m.Cache.Floor + 1} {
					got, e := checkTake(t, s, u, clock, floor)
					if e == api.OK {
						checkRight(t, got, true)
					} else if !same(got, s) {
						t.Fatalf("Take of %s, %v: %s", told(s), e, told(got))
					}
				}
			}
		}
	}
}

func TestWrongShelvesAreAsTheyWere(t *testing.T) {
	for i, s := range wrongOnes() {
		if got, e := checkTake(t, s, use(9, 9, 999), 999, 0); e != api.ErrArg || !same(got, s) {
			t.Fatalf("%d: Take = %s, %v", i, told(got), e)
		}
		if got, e := checkInstall(t, s, bundleOf(999, 1, 1, 1)); e != api.ErrArg || !same(got, s) {
			t.Fatalf("%d: Install = %s, %v", i, told(got), e)
		}
	}
}

func TestInstall(t *testing.T) {
	s := one()
	x := bundleOf(3, 3, 7, 2)
	got, e := checkInstall(t, s, x)
	want := deep(s)
	want.Disk.Areas[0] = area(slices.Concat(s.Disk.Areas[0].Bytes, row(bundleText(x))))
	want.Memory.Bundle = x
	check(t, "Install", s, s, got, e, want, api.OK)
	checkRight(t, got, true)
	again, e := checkInstall(t, got, x)
	check(t, "Install", got, got, again, e, got, api.ErrOld)
}

// TestInstallTellsTheFirst error.
func TestInstallTellsTheFirst(t *testing.T) {
	s := one()
	wrong := deep(s)
	wrong.Number++
	for version := range uint64(6) {
		want := api.OK
		if version <= 2 {
			want = api.ErrOld
		}
		if got, e := checkInstall(t, s, bundleOf(version, 1, 1, 1)); e != want || e != api.OK && !same(got, s) {
			t.Fatalf("Install of the version %d = %s, %v", version, told(got), e)
		}
		if got, e := checkInstall(t, wrong, bundleOf(version, 1, 1, 1)); e != api.ErrArg || !same(got, wrong) {
			t.Fatalf("Install of the version %d = %s, %v", version, told(got), e)
		}
		for i, m := range wrongMemories()[:6] {
			x := m.Bundle
			x.Version = version
			if got, e := checkInstall(t, s, x); e != api.ErrArg || !same(got, s) {
				t.Fatalf("%d: Install of a wrong bundle = %s, %v", i, told(got), e)
			}
		}
	}
}

// TestInstallOfEachVersion, at the ends of numbers, too.
func TestInstallOfEachVersion(t *testing.T) {
	versions := []uint64{0, 1, 255, 256, 1<<63 - 1, 1 << 63, top - 1, top}
	for _, is := range versions {
		s := kept(1, 3, api.Memory{Bundle: bundleOf(is, 1, 1, 1)}, api.Area{})
		for _, version := range versions {
			got, e := checkInstall(t, s, bundleOf(version, 2, 2, 2))
			if (e == api.OK) != (version > is) || e != api.OK && e != api.ErrOld {
				t.Fatalf("Install of the version %d behind %d = %s, %v", version, is, told(got), e)
			}
		}
	}
}

func TestInstallOfAll(t *testing.T) {
	for _, s := range shelves() {
		version := s.Memory.Bundle.Version
		for _, x := range []api.Bundle{{}, {Version: version}, bundleOf(version+1, 0, 0, 0), bundleOf(version+1, 64, 32, 64), bundleOf(top, 1, 9, 0)} {
			if got, e := checkInstall(t, s, x); e == api.OK {
				checkRight(t, got, true)
			} else if !same(got, s) {
				t.Fatalf("Install of %s, %v: %s", told(s), e, told(got))
			}
		}
	}
}

// P20.4

// part of so many bytes, from 72 on, that the slip of a bundle with one entry may have: that is from 36 to 67.
func part(n int) int {
	switch {
	case n > 138:
		return 67
	case n > 134:
		return 36
	case n > 67:
		return n / 2
	}
	return n
}

// longOne: a right shelf whose area Turn has so many bytes.
func longOne(t *testing.T, turn int, number uint64, n int) api.Shelf {
	t.Helper()
	m := api.Memory{Cache: api.Cache{Room: 3}, Bundle: bundleOf(1, 40, 30, 3)}
	var texts [][]byte
	size := len(row(memoryText(number, m)))
	for k := uint64(2); size < n; k++ {
		text := bundleText(bundleOf(k, 1, part(n-size)-35, 0))
		texts = append(texts, text)
		size += len(row(text))
	}
	s := kept(turn, number, m, area(row(memoryText(0, m))), texts...)
	if len(s.Disk.Areas[turn].Bytes) != n {
		t.Fatalf("an area of %d bytes was asked for: %s", n, told(s))
	}
	checkRight(t, s, true)
	return s
}

// TestUpToMaxLog: an area has at most so many bytes, and one more is written anew.
func TestUpToMaxLog(t *testing.T) {
	for turn := range 2 {
		for n := mostLog - useSize - 8; n < mostLog-useSize+8; n++ {
			s := longOne(t, turn, 7, n)
			got, e := checkTake(t, s, use(1, 2, 3), 4, 0)
			if e != api.OK || (got.Turn == turn) != (n+useSize <= mostLog) || (got.Number == 7) != (n+useSize <= mostLog) {
				t.Fatalf("Take of %s = %s, %v", told(s), told(got), e)
			}
			if a := got.Disk.Areas[turn]; got.Turn == turn && len(a.Bytes) != n+useSize || got.Turn != turn && !bytes.Equal(a.Bytes, s.Disk.Areas[turn].Bytes) {
				t.Fatalf("Take of %s = %s", told(s), told(got))
			}
			checkRight(t, got, true)
		}
		x := bundleOf(9999, 7, 11, 3)
		size := len(row(bundleText(x)))
		for n := mostLog - size - 8; n < mostLog-size+8; n++ {
			s := longOne(t, turn, 7, n)
			got, e := checkInstall(t, s, x)
			if e != api.OK || (got.Turn == turn) != (n+size <= mostLog) || (got.Number == 7) != (n+size <= mostLog) {
				t.Fatalf("Install of %s = %s, %v", told(s), told(got), e)
			}
			checkRight(t, got, true)
		}
	}
}

// TestAnew: what is written anew is all of the memory, and nothing else.
func TestAnew(t *testing.T) {
	for _, n := range []int{mostLog - 1, mostLog, mostLog + 1, 20000} {
		s := longOne(t, 0, 7, n)
		got, e := checkTake(t, s, use(1, 2, 3), 4, 1)
		want := s
		want.Turn, want.Number = 1, 8
		want.Memory.Clock, want.Memory.Cache = 4, api.Cache{Room: 3, Floor: 1, Seen: []api.Use{use(1, 2, 3)}}
		want.Disk.Areas[1] = area(row(memoryText(8, want.Memory)))
		check(t, "Take", s, s, got, e, want, api.OK)
		x := bundleOf(9999, 64, 32, 64)
		got, e = checkInstall(t, s, x)
		want = s
		want.Turn, want.Number, want.Memory.Bundle = 1, 8, x
		want.Disk.Areas[1] = area(row(memoryText(8, want.Memory)))
		check(t, "Install", s, s, got, e, want, api.OK)
	}
}

// TestAnewAtTheGreatestNumber: then the shelf is as it was; while there is room behind, the number doesn't matter.
func TestAnewAtTheGreatestNumber(t *testing.T) {
	for turn := range 2 {
		for _, number := range []uint64{mostNumber - 1, mostNumber} {
			want := api.OK
			if number == mostNumber {
				want = api.ErrMost
			}
			for _, n := range []int{mostLog - useSize + 1, mostLog, 9000} {
				for fuse := -1; fuse < 4; fuse++ {
					s := set(longOne(t, turn, number, n), fuse, 0)
					if number < mostNumber && fuse >= 0 && fuse < 3 {
						continue
					}
					if got, e := checkTake(t, s, use(1, 2, 3), 4, 0); e != want || e != api.OK && !same(got, s) {
						t.Fatalf("Take of %s = %s, %v", told(s), told(got), e)
					}
					if got, e := checkInstall(t, s, bundleOf(9999, 4, 4, 4)); e != want || e != api.OK && !same(got, s) {
						t.Fatalf("Install of %s = %s, %v", told(s), told(got), e)
					}
				}
			}
			s := longOne(t, turn, number, mostLog-useSize)
			if got, e := checkTake(t, s, use(1, 2, 3), 4, 0); e != api.OK || got.Number != number {
				t.Fatalf("Take of %s = %s, %v", told(s), told(got), e)
			}
		}
	}
	// Another error is told ahead of it.
	s := longOne(t, 0, mostNumber, mostLog)
	if _, e := checkTake(t, s, use(1, 2, 3), 4, 4); e != api.ErrWindow {
		t.Error(e)
	}
	if _, e := checkInstall(t, s, api.Bundle{}); e != api.ErrOld {
		t.Error(e)
	}
}

// deed of a shelf that changes what it keeps.
type deed struct {
	name  string
	steps int
	size  int
	s     api.Shelf
	do    func(t *testing.T, s api.Shelf) (api.Shelf, api.Errno)
}

// deeds: both, behind what is there, and anew.
func deeds(t *testing.T) []deed {
	u, x := use(1, 2, 3), bundleOf(9999, 2, 5, 1)
	take := func(t *testing.T, s api.Shelf) (api.Shelf, api.Errno) { return checkTake(t, s, u, 999, 0) }
	install := func(t *testing.T, s api.Shelf) (api.Shelf, api.Errno) { return checkInstall(t, s, x) }
	short, long := longOne(t, 1, 7, 4000), longOne(t, 0, 7, mostLog)
	anew := len(row(memoryText(8, long.Memory)))
	return []deed{
		{"Take behind", 2, useSize, short, take},
		{"Install behind", 2, len(row(bundleText(x))), short, install},
		{"Take anew", 3, anew + 24, long, take},
		{"Install anew", 3, anew - 16, long, install},
	}
}

// TestPowerGoes at each step, with so many bytes kept: only the disk is told, and it has the memory ahead of it, or that behind it.
func TestPowerGoes(t *testing.T) {
	for _, x := range deeds(t) {
		next, e := x.do(t, x.s)
		if e != api.OK {
			t.Fatal(x.name, e)
		}
		both := map[bool]bool{}
		for fuse := range x.steps + 2 {
			for _, keep := range keeps(x.size) {
				got, e := x.do(t, set(x.s, fuse, keep))
				if (e == api.ErrDown) != (fuse < x.steps) || e != api.OK && e != api.ErrDown {
					t.Fatalf("%s with the fuse %d = %s, %v", x.name, fuse, told(got), e)
				}
				if e == api.ErrDown && (!same(got, api.Shelf{Disk: got.Disk}) || !got.Disk.Down) {
					t.Fatalf("%s with the fuse %d told %s", x.name, fuse, told(got))
				}
				if e == api.OK && (!sameMemory(got.Memory, next.Memory) || got.Disk.Fuse != fuse-x.steps) {
					t.Fatalf("%s with the fuse %d = %s", x.name, fuse, told(got))
				}
				hasEither(t, got.Disk, &x.s.Memory, &next.Memory)
				has, _ := shelf.Has(got.Disk)
				both[sameMemory(has.Memory, next.Memory)] = true
				risen(t, got, has.Memory)
			}
		}
		if !both[true] || !both[false] {
			t.Errorf("%s: the power went only ahead, or only behind", x.name)
		}
	}
}

// risen: a disk that is down rises, and is opened: it has what it had.
func risen(t *testing.T, s api.Shelf, m api.Memory) {
	t.Helper()
	if !s.Disk.Down {
		return
	}
	d, _ := disk.Rise(s.Disk)
	got, e := checkOpen(t, d, 1)
	if e != api.OK || !sameMemory(got.Memory, m) {
		t.Fatalf("risen, it is %s, %v", told(got), e)
	}
	checkRight(t, got, true)
}

// P20.5

// life of a shelf, with all that was ever put.
type life struct {
	s   api.Shelf
	put map[api.Use]bool
}

// same or onward: no number of a memory falls.
func (l *life) onward(t *testing.T, m api.Memory) {
	t.Helper()
	was := l.s.Memory
	if m.Clock < was.Clock || m.Bundle.Version < was.Bundle.Version || m.Cache.Floor < was.Cache.Floor || m.Cache.Room != was.Cache.Room {
		t.Fatalf("%s went back: %v", told(l.s), m)
	}
}

// dark: what is done, if the power went.
func (l *life) dark(t *testing.T, r *rand.Rand, d api.Disk, next api.Memory) {
	t.Helper()
	hasEither(t, d, &l.s.Memory, &next)
	has, _ := shelf.Has(d)
	l.onward(t, has.Memory)
	for d.Down {
		d, _ = disk.Rise(d)
		if r.IntN(3) == 0 {
			d.Fuse, d.Keep = r.IntN(4), r.IntN(6000)
		}
		s, e := checkOpen(t, d, r.IntN(65))
		if e != api.OK && e != api.ErrDown {
			t.Fatalf("risen, it is %s, %v", told(s), e)
		}
		d = s.Disk
		now, e := shelf.Has(d)
		if e != api.OK || !sameMemory(now.Memory, has.Memory) {
			t.Fatalf("risen, it has %s, %v", told(now), e)
		}
		if s.Disk.Down {
			continue
		}
		l.s = s
	}
}

// take a use.
func (l *life) take(t *testing.T, r *rand.Rand) api.Errno {
	m := l.s.Memory
	u := use(uint64(r.IntN(3)), uint64(r.IntN(2)), m.Cache.Floor+uint64(r.IntN(20))-2)
	clock, floor := m.Clock+uint64(r.IntN(9))-1, m.Cache.Floor+uint64(r.IntN(4))-1
	if r.IntN(8) > 0 {
		floor = m.Cache.Floor
	}
	next, wrong := otherUsed(m, u, clock, floor)
	got, e := checkTake(t, l.s, u, clock, floor)
	if wrong != api.OK {
		if e != wrong || !same(got, l.s) {
			t.Fatalf("Take = %s, %v, want %v", told(got), e, wrong)
		}
		return e
	}
	if l.put[u] {
		t.Fatalf("%v is put again", u)
	}
	if e == api.ErrDown {
		l.dark(t, r, got.Disk, next)
		// Risen, it may have the use, though it wasn't told.
		l.put[u] = cache.Has(l.s.Memory.Cache, u)
		return e
	}
	if e != api.OK || !sameMemory(got.Memory, next) {
		t.Fatalf("Take = %s, %v", told(got), e)
	}
	l.put[u], l.s = true, got
	return e
}

// install a bundle.
func (l *life) install(t *testing.T, r *rand.Rand) api.Errno {
	next := l.s.Memory
	x := bundleOf(next.Bundle.Version+uint64(r.IntN(4))-1, r.IntN(65), 1+r.IntN(32), r.IntN(65))
	next.Bundle = x
	got, e := checkInstall(t, l.s, x)
	switch e {
	case api.OK:
		l.onward(t, got.Memory)
		l.s = got
	case api.ErrDown:
		l.dark(t, r, got.Disk, next)
	case api.ErrOld:
		if !same(got, l.s) || x.Version > l.s.Memory.Bundle.Version {
			t.Fatalf("Install = %s, %v", told(got), e)
		}
	default:
		t.Fatalf("Install = %s, %v", told(got), e)
	}
	return e
}

// TestLivesByChance: whatever befalls it, a shelf stays right, nothing falls, and nothing is put again.
func TestLivesByChance(t *testing.T) {
	told := map[api.Errno]int{}
	numbers := uint64(0)
	for seed := range uint64(16) {
		r := rand.New(rand.NewPCG(2000, seed))
		s, e := checkOpen(t, disk.New(), []int{64, 64, 8, 2}[seed%4])
		if e != api.OK {
			t.Fatal(e)
		}
		// A version or a counter that is one less than 0 is a great one: it would end all.
		s.Memory.Clock, s.Memory.Bundle.Version, s.Memory.Cache.Floor = 9, 9, 9
		l := &life{s: kept(0, 1, s.Memory, api.Area{}), put: map[api.Use]bool{}}
		for range 200 {
			if r.IntN(12) == 0 {
				l.s.Disk.Fuse, l.s.Disk.Keep = r.IntN(5), r.IntN(200)*r.IntN(30)
			}
			was := l.s.Memory
			if r.IntN(10) == 0 {
				told[l.install(t, r)]++
			} else {
				told[l.take(t, r)]++
			}
			checkRight(t, l.s, true)
			(&life{s: api.Shelf{Memory: was}}).onward(t, l.s.Memory)
		}
		numbers += l.s.Number
	}
	for _, e := range []api.Errno{api.OK, api.ErrDown, api.ErrOld, api.ErrSeen, api.ErrFull, api.ErrWindow} {
		if told[e] < 20 {
			t.Errorf("%v was told %d times", e, told[e])
		}
	}
	if numbers < 100 {
		t.Errorf("areas were written anew %d times", numbers)
	}
}

// TestCrashAnytime: between two deeds the power may go, too: all that was told is sure.
func TestCrashAnytime(t *testing.T) {
	s, _ := shelf.Open(disk.New(), 64)
	for k := range uint64(300) {
		if k%20 == 7 {
			s, _ = checkInstall(t, s, bundleOf(k, 30, 30, 30))
		}
		next, e := checkTake(t, s, use(5, 1, k), k, max(k, 60)-60)
		if e != api.OK {
			t.Fatalf("%d: %v", k, e)
		}
		s = next
		for _, keep := range []int{0, 1000} {
			d, _ := disk.Crash(s.Disk, keep)
			risen(t, api.Shelf{Disk: d}, s.Memory)
		}
	}
}

// TestNeverTakenAgain: a use that was taken isn't again, whatever was opened since, and however the floor rises.
func TestNeverTakenAgain(t *testing.T) {
	s, _ := shelf.Open(disk.New(), 64)
	var taken []api.Use
	for k := range uint64(60) {
		u := use(k%3, k%2, k)
		next, e := checkTake(t, s, u, 300, k/3)
		if e != api.OK {
			t.Fatal(e)
		}
		taken = append(taken, u)
		if s = next; k%7 == 3 {
			s, _ = checkOpen(t, s.Disk, 64)
		}
		for _, u := range taken {
			for _, floor := range []uint64{0, k / 3, u.Counter, top} {
				if got, e := checkTake(t, s, u, top, floor); e != api.ErrSeen && e != api.ErrWindow || !same(got, s) {
					t.Fatalf("%v again: %s, %v", u, told(got), e)
				}
			}
		}
	}
}

// The rules that hold everywhere

// parts of a shelf: each of its lists, as one that spoils it, its spare room, too.
func parts(s api.Shelf) []func() {
	l := []func(){
		func() { spoilBytes(s.Disk.Areas[0].Bytes) },
		func() { spoilBytes(s.Disk.Areas[1].Bytes) },
		func() { fill(s.Memory.Cache.Seen, use(85, 85, 85)) },
		func() { fill(s.Memory.Bundle.Gone, api.Gone{Ticket: 85, Epoch: 85}) },
		func() { fill(s.Memory.Bundle.Entries, api.Entry{Ticket: 85}) },
	}
	for _, e := range s.Memory.Bundle.Entries {
		l = append(l, func() { spoilBytes(e.Seed) })
	}
	return l
}

// spoilBytes, with their spare room.
func spoilBytes(b []byte) {
	b = b[:cap(b)]
	for k := range b {
		b[k] ^= 85
	}
}

// fill a list, with its spare room.
func fill[T any](l []T, with T) {
	l = l[:cap(l)]
	for k := range l {
		l[k] = with
	}
}

// roomy list: the same, with something in its spare room.
func roomy[T any](l []T, with T) []T {
	return append(slices.Clip(slices.Clone(l)), with, with, with)[:len(l)]
}

// roomyBundle, likewise.
func roomyBundle(x api.Bundle) api.Bundle {
	x.Entries = roomy(x.Entries, api.Entry{Ticket: 1, Seed: []byte{1}})
	x.Gone = roomy(x.Gone, api.Gone{Ticket: 1})
	for k, e := range x.Entries {
		x.Entries[k].Seed = roomy(e.Seed, 1)
	}
	return x
}

// roomyShelf, likewise.
func roomyShelf(s api.Shelf) api.Shelf {
	for k, a := range s.Disk.Areas {
		s.Disk.Areas[k].Bytes = roomy(a.Bytes, 1)
	}
	s.Memory.Bundle = roomyBundle(s.Memory.Bundle)
	s.Memory.Cache.Seen = roomy(s.Memory.Cache.Seen, use(1, 1, 1))
	return s
}

// whole: all of a shelf, spare room being no spare room any more.
func whole(s api.Shelf) api.Shelf {
	for k, a := range s.Disk.Areas {
		s.Disk.Areas[k].Bytes = a.Bytes[:cap(a.Bytes)]
	}
	s.Memory.Cache.Seen = s.Memory.Cache.Seen[:cap(s.Memory.Cache.Seen)]
	s.Memory.Bundle = wholeBundle(s.Memory.Bundle)
	return s
}

// wholeBundle, likewise.
func wholeBundle(x api.Bundle) api.Bundle {
	x.Gone = x.Gone[:cap(x.Gone)]
	x.Entries = slices.Clone(x.Entries[:cap(x.Entries)])
	for k, e := range x.Entries {
		x.Entries[k].Seed = e.Seed[:cap(e.Seed)]
	}
	return x
}

// answerers: each call, in each way in which it answers.
func answerers(t *testing.T) []func(s api.Shelf, x api.Bundle) (api.Shelf, api.Errno) {
	return []func(s api.Shelf, x api.Bundle) (api.Shelf, api.Errno){
		func(s api.Shelf, _ api.Bundle) (api.Shelf, api.Errno) { return shelf.Has(s.Disk) },
		func(s api.Shelf, _ api.Bundle) (api.Shelf, api.Errno) { return shelf.Open(s.Disk, 3) },
		func(s api.Shelf, _ api.Bundle) (api.Shelf, api.Errno) { return shelf.Open(s.Disk, -1) },
		func(s api.Shelf, _ api.Bundle) (api.Shelf, api.Errno) { return shelf.Take(s, use(1, 2, 30), 999, 9) },
		func(s api.Shelf, _ api.Bundle) (api.Shelf, api.Errno) { return shelf.Take(s, use(1, 2, 3), 0, 9) },
		func(s api.Shelf, _ api.Bundle) (api.Shelf, api.Errno) { return shelf.Take(s, use(1, 2, 3), 999, 9) },
		func(s api.Shelf, x api.Bundle) (api.Shelf, api.Errno) { return shelf.Install(s, x) },
		func(s api.Shelf, x api.Bundle) (api.Shelf, api.Errno) {
			x.Version = 0
			return shelf.Install(s, x)
		},
	}
}

// handedIn: shelves of all kinds, for which the calls answer in each way.
func handedIn(t *testing.T) []api.Shelf {
	down := deep(one())
	down.Disk.Down = true
	l := []api.Shelf{one(), down, {Disk: disk.New()}, longOne(t, 1, 7, mostLog), longOne(t, 0, mostNumber, mostLog), kept(1, top, memories()[2], area([]byte("nothing")))}
	for fuse := range 4 {
		for _, s := range l[:4] {
			l = append(l, set(deep(s), fuse, 30))
		}
	}
	return append(l, wrongOnes()...)
}

func TestAnswersAreNewMemory(t *testing.T) {
	for i, s := range handedIn(t) {
		for k, answer := range answerers(t) {
			x := bundleOf(9999, 2, 5, 2)
			s, x := roomyShelf(s), roomyBundle(x)
			was, wasX := deep(s), deepBundle(x)
			want, e := answer(deep(s), deepBundle(x))
			want = deep(want)
			for part := range parts(want) {
				got, _ := answer(s, x)
				if !same(got, want) {
					t.Fatalf("%d: the answer %d (%v) is another one the second time", i, k, e)
				}
				wanted := deep(want)
				parts(got)[part]()
				parts(wanted)[part]()
				if !same(got, wanted) {
					t.Fatalf("%d: lists of the answer %d (%v) share memory", i, k, e)
				}
				if !same(whole(s), whole(was)) || !sameBundle(wholeBundle(x), wholeBundle(wasX)) {
					t.Fatalf("%d: the answer %d (%v) shares with what was handed in", i, k, e)
				}
			}
			got, _ := answer(s, x)
			for _, spoil := range append(parts(s), parts(api.Shelf{Memory: api.Memory{Bundle: x}})...) {
				spoil()
			}
			if !same(got, want) {
				t.Fatalf("%d: the answer %d (%v) keeps what was handed in", i, k, e)
			}
		}
	}
}

// TestSharedArguments: lists that are handed in may share their memory.
func TestSharedArguments(t *testing.T) {
	m := memories()[2]
	b := row(memoryText(7, m))
	s := api.Shelf{Disk: of(area(b), area(b)), Number: 7, Memory: m}
	next, e := checkTake(t, s, use(6, 6, 60), 300, 0)
	if e != api.OK {
		t.Fatal(e)
	}
	checkInstall(t, next, api.Bundle{Version: 3, Entries: []api.Entry{{Ticket: 1, Seed: b[:3]}, {Ticket: 2, Seed: b[:3]}}, Gone: m.Bundle.Gone})
	checkOpen(t, s.Disk, 3)
}

// TestAnyArguments: no call panics, and each ends.
func TestAnyArguments(t *testing.T) {
	r := rand.New(rand.NewPCG(2001, 1))
	some := func(n int) []byte {
		b := make([]byte, r.IntN(n+1))
		for k := range b {
			b[k] = byte(r.Uint32())
		}
		return b
	}
	for range 3000 {
		var s api.Shelf
		for k := range s.Disk.Areas {
			b := some(60)
			if r.IntN(2) == 0 {
				b = row(append([]byte{[]byte{77, 78, 85}[r.IntN(3)]}, some(60)...), some(3))
			}
			s.Disk.Areas[k] = api.Area{Bytes: b, Sure: r.IntN(len(b)+3) - 1}
		}
		s.Disk.Fuse, s.Disk.Keep, s.Disk.Down = r.IntN(5)-2, r.IntN(9)-1, r.IntN(5) == 0
		s.Turn, s.Number = r.IntN(5)-2, r.Uint64()>>r.IntN(65)
		s.Memory = wrongMemories()[r.IntN(len(wrongMemories()))]
		checkHas(t, s.Disk)
		checkRight(t, s, false)
		checkOpen(t, s.Disk, r.IntN(70)-3)
		checkTake(t, s, use(r.Uint64(), r.Uint64(), r.Uint64()), r.Uint64(), r.Uint64())
		checkInstall(t, s, s.Memory.Bundle)
	}
}
