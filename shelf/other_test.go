package shelf_test

import (
	"bytes"
	"crypto/sha256"
	"encoding/binary"
	"math"
	"slices"
	"strconv"
	"testing"

	"wristband/api"
	"wristband/bundle"
	"wristband/cache"
	"wristband/disk"
	"wristband/shelf"
)

const (
	// mostLog bytes of an area, ahead of writing it anew.
	mostLog = 8192
	// mostNumber of an area.
	mostNumber = uint64(1) << 62
	// mostArea bytes of an area.
	mostArea = 1 << 20
	// useSize: how many bytes the slip of a use has.
	useSize = 2 + 41 + 4
	top     = uint64(math.MaxUint64)
)

// use of a ticket, an epoch and a counter.
func use(ticket, epoch, counter uint64) api.Use {
	return api.Use{Ticket: ticket, Epoch: epoch, Counter: counter}
}

// numbersOf: eight bytes of each.
func numbersOf(l ...uint64) []byte {
	var b []byte
	for _, v := range l {
		b = binary.BigEndian.AppendUint64(b, v)
	}
	return b
}

// otherSlip of a text, by the library's hash.
func otherSlip(text []byte) []byte {
	b := slices.Concat([]byte{byte(len(text) >> 8), byte(len(text))}, text)
	sum := sha256.Sum256(b)
	return append(b, sum[:4]...)
}

// row of texts: their slips.
func row(texts ...[]byte) []byte {
	var b []byte
	for _, text := range texts {
		b = append(b, otherSlip(text)...)
	}
	return b
}

// useText: the record of a use.
func useText(u api.Use, clock, floor uint64) []byte {
	return slices.Concat([]byte{85}, numbersOf(u.Ticket, u.Epoch, u.Counter, clock, floor))
}

// otherBytes of a bundle.
func otherBytes(x api.Bundle) []byte {
	b := slices.Concat([]byte{66}, numbersOf(x.Version), []byte{byte(len(x.Entries))})
	for _, e := range x.Entries {
		b = slices.Concat(b, numbersOf(e.Ticket, e.Epoch), []byte{byte(len(e.Seed))}, e.Seed)
	}
	b = append(b, byte(len(x.Gone)))
	for _, g := range x.Gone {
		b = append(b, numbersOf(g.Ticket, g.Epoch)...)
	}
	return b
}

// bundleText: the record of a bundle.
func bundleText(x api.Bundle) []byte {
	return slices.Concat([]byte{78}, otherBytes(x))
}

// memoryText: the record of a memory, with a number.
func memoryText(number uint64, m api.Memory) []byte {
	b := slices.Concat([]byte{77}, numbersOf(number, m.Clock), []byte{byte(m.Cache.Room)}, numbersOf(m.Cache.Floor), []byte{byte(len(m.Cache.Seen))})
	for _, u := range m.Cache.Seen {
		b = append(b, numbersOf(u.Ticket, u.Epoch, u.Counter)...)
	}
	return append(b, otherBytes(m.Bundle)...)
}

// otherRow: the texts of a row, and whether their slips have all of its bytes.
func otherRow(b []byte) ([][]byte, bool) {
	var texts [][]byte
	for len(b) >= 6 {
		n := int(binary.BigEndian.Uint16(b))
		if n > 60000 || n+6 > len(b) || !bytes.Equal(otherSlip(b[2:n+2]), b[:n+6]) {
			break
		}
		texts = append(texts, b[2:n+2])
		b = b[n+6:]
	}
	return texts, len(b) == 0
}

// otherRightMemory: the chapter's two.
func otherRightMemory(m api.Memory) bool {
	return cache.Right(m.Cache) && bundle.Right(m.Bundle)
}

// otherMemory whose record a text is: as far as it can be one, and then by writing it again.
func otherMemory(text []byte) (uint64, api.Memory, bool) {
	var m api.Memory
	if len(text) < 27 {
		return 0, m, false
	}
	number := binary.BigEndian.Uint64(text[1:])
	m.Clock = binary.BigEndian.Uint64(text[9:])
	m.Cache.Room = int(text[17])
	m.Cache.Floor = binary.BigEndian.Uint64(text[18:])
	rest := text[27:]
	for range int(text[26]) {
		if len(rest) < 24 {
			return 0, m, false
		}
		m.Cache.Seen = append(m.Cache.Seen, use(binary.BigEndian.Uint64(rest), binary.BigEndian.Uint64(rest[8:]), binary.BigEndian.Uint64(rest[16:])))
		rest = rest[24:]
	}
	x, _, e := bundle.Read(rest)
	m.Bundle = x
	return number, m, e == api.OK && otherRightMemory(m) && bytes.Equal(memoryText(number, m), text)
}

// otherUsed: a memory behind a use.
func otherUsed(m api.Memory, u api.Use, clock, floor uint64) (api.Memory, api.Errno) {
	if clock < m.Clock {
		return m, api.ErrOld
	}
	c, _ := cache.Raise(m.Cache, floor)
	c, e := cache.Put(c, u)
	if e != api.OK {
		return m, e
	}
	return api.Memory{Clock: clock, Bundle: m.Bundle, Cache: c}, api.OK
}

// otherOn from a memory by a text.
func otherOn(m api.Memory, text []byte) (api.Memory, bool) {
	if len(text) == 41 && text[0] == 85 {
		var l [5]uint64
		for k := range l {
			l[k] = binary.BigEndian.Uint64(text[1+8*k:])
		}
		next, e := otherUsed(m, use(l[0], l[1], l[2]), l[3], l[4])
		return next, e == api.OK
	}
	if len(text) > 0 && text[0] == 78 {
		x, n, e := bundle.Read(text[1:])
		if e == api.OK && n == len(text)-1 && x.Version > m.Bundle.Version {
			return api.Memory{Clock: m.Clock, Bundle: x, Cache: m.Cache}, true
		}
	}
	return m, false
}

// otherHeld: what an area has, if it has something, and whether all of its bytes are those of slips by which it goes on.
func otherHeld(b []byte) (number uint64, m api.Memory, some, all bool) {
	texts, whole := otherRow(b)
	if len(texts) == 0 {
		return 0, m, false, false
	}
	number, m, some = otherMemory(texts[0])
	if !some {
		return 0, api.Memory{}, false, false
	}
	for _, text := range texts[1:] {
		next, on := otherOn(m, text)
		if !on {
			return number, m, true, false
		}
		m = next
	}
	return number, m, true, whole
}

// otherHas: what a disk has.
func otherHas(d api.Disk) (api.Shelf, api.Errno) {
	want, wantE := api.Shelf{Disk: d}, api.ErrNone
	for k, a := range d.Areas {
		number, m, some, _ := otherHeld(a.Bytes)
		if some && (wantE != api.OK || number > want.Number) {
			want, wantE = api.Shelf{Disk: d, Turn: k, Number: number, Memory: m}, api.OK
		}
	}
	return want, wantE
}

// otherRight shelf?
func otherRight(s api.Shelf) bool {
	has, e := otherHas(s.Disk)
	if !disk.Right(s.Disk) || s.Disk.Down || s.Number > mostNumber || e != api.OK || !same(has, s) {
		return false
	}
	a := s.Disk.Areas[s.Turn]
	_, _, _, all := otherHeld(a.Bytes)
	return all && a.Sure == len(a.Bytes)
}

// anew: the three steps, told one by one.
func anew(s api.Shelf) (api.Shelf, api.Errno) {
	k := 1 - s.Turn
	b := row(memoryText(s.Number+1, s.Memory))
	d, e := disk.Wipe(s.Disk, k)
	if e == api.OK {
		d, e = disk.Write(d, k, b)
	}
	if e == api.OK {
		d, e = disk.Sync(d, k)
	}
	if e != api.OK {
		return api.Shelf{Disk: d}, e
	}
	return api.Shelf{Disk: d, Turn: k, Number: s.Number + 1, Memory: s.Memory}, api.OK
}

// otherKeep a memory, by a record.
func otherKeep(s api.Shelf, m api.Memory, text []byte) (api.Shelf, api.Errno) {
	b := row(text)
	if len(s.Disk.Areas[s.Turn].Bytes)+len(b) > mostLog {
		if s.Number == mostNumber {
			return s, api.ErrMost
		}
		return anew(api.Shelf{Disk: s.Disk, Turn: s.Turn, Number: s.Number, Memory: m})
	}
	d, e := disk.Write(s.Disk, s.Turn, b)
	if e == api.OK {
		d, e = disk.Sync(d, s.Turn)
	}
	if e != api.OK {
		return api.Shelf{Disk: d}, e
	}
	return api.Shelf{Disk: d, Turn: s.Turn, Number: s.Number, Memory: m}, api.OK
}

// otherOpen asks in the chapter's order.
func otherOpen(d api.Disk, room int) (api.Shelf, api.Errno) {
	s, e := otherHas(d)
	if e != api.OK {
		s = api.Shelf{Disk: d, Turn: 1, Memory: api.Memory{Cache: api.Cache{Room: room}}}
	}
	switch only := (api.Shelf{Disk: d}); {
	case !disk.Right(d), room < 0, room > 64:
		return only, api.ErrArg
	case d.Down:
		return only, api.ErrDown
	case s.Number > mostNumber-1:
		return only, api.ErrMost
	}
	return anew(s)
}

// otherTake asks in the chapter's order.
func otherTake(s api.Shelf, u api.Use, clock, floor uint64) (api.Shelf, api.Errno) {
	if !otherRight(s) {
		return s, api.ErrArg
	}
	m, e := otherUsed(s.Memory, u, clock, floor)
	if e != api.OK {
		return s, e
	}
	return otherKeep(s, m, useText(u, clock, floor))
}

// otherInstall asks in the chapter's order.
func otherInstall(s api.Shelf, x api.Bundle) (api.Shelf, api.Errno) {
	switch {
	case !otherRight(s) || !bundle.Right(x):
		return s, api.ErrArg
	case x.Version <= s.Memory.Bundle.Version:
		return s, api.ErrOld
	}
	return otherKeep(s, api.Memory{Clock: s.Memory.Clock, Bundle: x, Cache: s.Memory.Cache}, bundleText(x))
}

// copied list, with all of its spare room.
func copied[T any](l []T) []T {
	return slices.Clone(l[:cap(l)])[:len(l)]
}

// deepBundle shares nothing.
func deepBundle(x api.Bundle) api.Bundle {
	x.Entries, x.Gone = copied(x.Entries), copied(x.Gone)
	for k, e := range x.Entries {
		x.Entries[k].Seed = copied(e.Seed)
	}
	return x
}

// deepDisk shares nothing.
func deepDisk(d api.Disk) api.Disk {
	for k, a := range d.Areas {
		d.Areas[k].Bytes = copied(a.Bytes)
	}
	return d
}

// deep copy of a shelf, all of its spare room included.
func deep(s api.Shelf) api.Shelf {
	s.Disk, s.Memory.Bundle = deepDisk(s.Disk), deepBundle(s.Memory.Bundle)
	s.Memory.Cache.Seen = copied(s.Memory.Cache.Seen)
	return s
}

// sameBundle: a list that is nil being an empty one?
func sameBundle(a, b api.Bundle) bool {
	return a.Version == b.Version && slices.Equal(a.Gone, b.Gone) && slices.EqualFunc(a.Entries, b.Entries, func(x, y api.Entry) bool {
		return x.Ticket == y.Ticket && x.Epoch == y.Epoch && bytes.Equal(x.Seed, y.Seed)
	})
}

// sameMemory, likewise?
func sameMemory(a, b api.Memory) bool {
	return a.Clock == b.Clock && sameBundle(a.Bundle, b.Bundle) &&
		a.Cache.Room == b.Cache.Room && a.Cache.Floor == b.Cache.Floor && slices.Equal(a.Cache.Seen, b.Cache.Seen)
}

// sameDisk, likewise?
func sameDisk(a, b api.Disk) bool {
	for k := range a.Areas {
		if a.Areas[k].Sure != b.Areas[k].Sure || !bytes.Equal(a.Areas[k].Bytes, b.Areas[k].Bytes) {
			return false
		}
	}
	return a.Fuse == b.Fuse && a.Keep == b.Keep && a.Down == b.Down
}

// same shelves, likewise?
func same(a, b api.Shelf) bool {
	return sameDisk(a.Disk, b.Disk) && a.Turn == b.Turn && a.Number == b.Number && sameMemory(a.Memory, b.Memory)
}

// told is a shelf in few words.
func told(s api.Shelf) string {
	out := "turn " + strconv.Itoa(s.Turn) + ", number " + strconv.FormatUint(s.Number, 10)
	for _, a := range s.Disk.Areas {
		out += ", " + strconv.Itoa(len(a.Bytes)) + " bytes, sure " + strconv.Itoa(a.Sure)
	}
	out += ", fuse " + strconv.Itoa(s.Disk.Fuse) + ", keep " + strconv.Itoa(s.Disk.Keep) + ", down " + strconv.FormatBool(s.Disk.Down)
	m := s.Memory
	out += ", clock " + strconv.FormatUint(m.Clock, 10) + ", version " + strconv.FormatUint(m.Bundle.Version, 10)
	out += ", " + strconv.Itoa(len(m.Bundle.Entries)) + " entries, " + strconv.Itoa(len(m.Bundle.Gone)) + " gone"
	return out + ", room " + strconv.Itoa(m.Cache.Room) + ", floor " + strconv.FormatUint(m.Cache.Floor, 10) + ", " + strconv.Itoa(len(m.Cache.Seen)) + " seen"
}

// check what a call answered for a shelf, and that it stayed as it was.
func check(t *testing.T, name string, s, was, got api.Shelf, e api.Errno, want api.Shelf, wantE api.Errno) {
	t.Helper()
	if !same(got, want) || e != wantE {
		t.Fatalf("%s of %s\n= %s, %v\nwant %s, %v", name, told(was), told(got), e, told(want), wantE)
	}
	if !same(s, was) {
		t.Fatalf("%s of %s left %s", name, told(was), told(s))
	}
}

// checkHas: what Has answers is what another reading tells.
func checkHas(t *testing.T, d api.Disk) (api.Shelf, api.Errno) {
	t.Helper()
	was := deepDisk(d)
	want, wantE := otherHas(deepDisk(d))
	got, e := shelf.Has(d)
	check(t, "Has", api.Shelf{Disk: d}, api.Shelf{Disk: was}, got, e, want, wantE)
	return want, wantE
}

// checkRight: what Right answers.
func checkRight(t *testing.T, s api.Shelf, want bool) {
	t.Helper()
	was := deep(s)
	if got := shelf.Right(s); got != want || got != otherRight(was) {
		t.Fatalf("Right(%s) = %v, want %v", told(was), got, want)
	}
	if !same(s, was) {
		t.Fatalf("Right(%s) left %s", told(was), told(s))
	}
}

// checkOpen, likewise.
func checkOpen(t *testing.T, d api.Disk, room int) (api.Shelf, api.Errno) {
	t.Helper()
	was := deepDisk(d)
	want, wantE := otherOpen(deepDisk(d), room)
	got, e := shelf.Open(d, room)
	check(t, "Open(.., "+strconv.Itoa(room)+")", api.Shelf{Disk: d}, api.Shelf{Disk: was}, got, e, want, wantE)
	return got, e
}

// checkTake, likewise.
func checkTake(t *testing.T, s api.Shelf, u api.Use, clock, floor uint64) (api.Shelf, api.Errno) {
	t.Helper()
	was := deep(s)
	want, wantE := otherTake(deep(s), u, clock, floor)
	got, e := shelf.Take(s, u, clock, floor)
	check(t, "Take", s, was, got, e, want, wantE)
	return got, e
}

// checkInstall, likewise.
func checkInstall(t *testing.T, s api.Shelf, x api.Bundle) (api.Shelf, api.Errno) {
	t.Helper()
	was, wasX := deep(s), deepBundle(x)
	want, wantE := otherInstall(deep(s), deepBundle(x))
	got, e := shelf.Install(s, x)
	check(t, "Install", s, was, got, e, want, wantE)
	if !sameBundle(x, wasX) {
		t.Fatalf("Install changed the bundle %v to %v", wasX, x)
	}
	return got, e
}

// uses that rise, so many, from a counter on.
func uses(many int, counter uint64) []api.Use {
	var l []api.Use
	for k := range many {
		l = append(l, use(5, uint64(k), counter))
	}
	return l
}

// bundleOf a version, with so many entries of seeds of so many bytes, and so many that are gone.
func bundleOf(version uint64, entries, seed, gone int) api.Bundle {
	x := api.Bundle{Version: version}
	for k := range entries {
		x.Entries = append(x.Entries, api.Entry{Ticket: uint64(k), Epoch: uint64(7 * k), Seed: bytes.Repeat([]byte{byte(k + 1)}, seed)})
	}
	for k := range gone {
		x.Gone = append(x.Gone, api.Gone{Ticket: uint64(k), Epoch: top})
	}
	return x
}

// memories that are right: empty ones, ordinary ones, the greatest that may be, numbers at their ends.
func memories() []api.Memory {
	return []api.Memory{
		{},
		{Cache: api.Cache{Room: 64}, Bundle: api.Bundle{Entries: []api.Entry{}, Gone: []api.Gone{}}},
		{Clock: 300, Bundle: bundleOf(2, 2, 4, 1), Cache: api.Cache{Room: 3, Floor: 9, Seen: []api.Use{use(5, 1, 10), use(5, 1, 11)}}},
		{Clock: 300, Bundle: bundleOf(2, 1, 1, 0), Cache: api.Cache{Room: 2, Seen: uses(2, 8)}},
		{Clock: top, Bundle: bundleOf(top, 1, 32, 2), Cache: api.Cache{Room: 1, Floor: top, Seen: []api.Use{use(top, top, top)}}},
		{Clock: 1 << 63, Bundle: bundleOf(1<<63, 64, 32, 64), Cache: api.Cache{Room: 64, Floor: 1 << 40, Seen: uses(64, 1<<40)}},
	}
}

// wrongMemories: by their bundle, by their cache, by both.
func wrongMemories() []api.Memory {
	room := api.Cache{Room: 3}
	return []api.Memory{
		{Bundle: bundleOf(0, 1, 0, 0), Cache: room},
		{Bundle: bundleOf(0, 1, 33, 0), Cache: room},
		{Bundle: bundleOf(0, 65, 1, 0), Cache: room},
		{Bundle: bundleOf(0, 0, 0, 65), Cache: room},
		{Bundle: api.Bundle{Gone: []api.Gone{{Ticket: 5}, {Ticket: 4}}}, Cache: room},
		{Bundle: api.Bundle{Entries: []api.Entry{{Ticket: 5, Seed: []byte{1}}, {Ticket: 5, Seed: []byte{1}}}}, Cache: room},
		{Cache: api.Cache{Room: -1}},
		{Cache: api.Cache{Room: 65}},
		{Cache: api.Cache{Room: 256}},
		{Cache: api.Cache{Room: 256 + 3}},
		{Cache: api.Cache{Room: -253}},
		{Cache: api.Cache{Room: 1, Seen: uses(2, 8)}},
		{Cache: api.Cache{Room: 64, Seen: uses(65, 8)}},
		{Cache: api.Cache{Room: 3, Seen: []api.Use{use(5, 1, 10), use(5, 1, 10)}}},
		{Cache: api.Cache{Room: 3, Seen: []api.Use{use(5, 1, 10), use(4, 1, 10)}}},
		{Cache: api.Cache{Room: 3, Floor: 11, Seen: []api.Use{use(5, 1, 10)}}},
		{Bundle: bundleOf(0, 1, 0, 0), Cache: api.Cache{Room: 65}},
	}
}

// area of bytes that are all sure.
func area(b []byte) api.Area { return api.Area{Bytes: b, Sure: len(b)} }

// of two areas: a disk that nothing befalls.
func of(one, other api.Area) api.Disk {
	return api.Disk{Areas: [2]api.Area{one, other}, Fuse: -1}
}

// behind texts: what a memory goes on to.
func behind(m api.Memory, texts ...[]byte) api.Memory {
	for _, text := range texts {
		m, _ = otherOn(m, text)
	}
	return m
}

// kept: a shelf on whose disk a memory goes on by texts, beside another area.
func kept(turn int, number uint64, m api.Memory, beside api.Area, texts ...[]byte) api.Shelf {
	s := api.Shelf{Turn: turn, Number: number, Memory: behind(m, texts...)}
	s.Disk.Fuse = -1
	s.Disk.Areas[turn] = area(slices.Concat(row(memoryText(number, m)), row(texts...)))
	s.Disk.Areas[1-turn] = beside
	return s
}

// onwards: texts by which each memory of a room goes on that has at most two seen, none of that ticket, and a clock of at most 300.
func onwards(m api.Memory) [][]byte {
	var l [][]byte
	for k := range m.Cache.Room - len(m.Cache.Seen) {
		if k < 3 && m.Clock < top {
			l = append(l, useText(use(77, uint64(k), m.Cache.Floor+2), m.Clock+uint64(k), m.Cache.Floor))
		}
	}
	if m.Bundle.Version < top {
		l = append(l, bundleText(bundleOf(m.Bundle.Version+1, 1, 3, 1)))
	}
	return l
}

// besides: what may stand in the area that isn't a shelf's turn, beside one of a number.
func besides(turn int, number uint64) []api.Area {
	m := memories()[2]
	old := row(memoryText(number-1, m), useText(use(77, 1, 20), 300, 0))
	l := []api.Area{
		{},
		area([]byte("nobody's")),
		{Bytes: row(memoryText(number+1, m))[:70], Sure: 3},
		area(row(useText(use(1, 2, 3), 4, 0), memoryText(number+1, m))),
		area(row(memoryText(number+1, api.Memory{Cache: api.Cache{Room: 65}}))),
	}
	if number > 0 {
		l = append(l, area(old), api.Area{Bytes: old, Sure: 9}, area(append(slices.Clone(old), 1, 2, 3)))
	}
	if turn == 0 {
		l = append(l, area(row(memoryText(number, m))))
	}
	return l
}

// shelves that are right.
func shelves() []api.Shelf {
	var l []api.Shelf
	for turn := range 2 {
		for _, number := range []uint64{0, 1, 77, mostNumber - 1, mostNumber} {
			for _, m := range memories() {
				l = append(l, kept(turn, number, m, api.Area{}, onwards(m)...))
			}
			for _, beside := range besides(turn, number) {
				l = append(l, kept(turn, number, memories()[2], beside))
			}
		}
	}
	return l
}

// one is an ordinary shelf.
func one() api.Shelf {
	m := api.Memory{Clock: 300, Bundle: bundleOf(2, 2, 4, 1), Cache: api.Cache{Room: 3, Floor: 9, Seen: []api.Use{use(5, 1, 10)}}}
	return kept(0, 7, m, area(row(memoryText(6, m))), useText(use(5, 1, 11), 310, 9))
}

// set a shelf's Fuse and Keep.
func set(s api.Shelf, fuse, keep int) api.Shelf {
	s.Disk.Fuse, s.Disk.Keep = fuse, keep
	return s
}
