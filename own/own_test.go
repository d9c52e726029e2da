package own

import (
	"bytes"
	"slices"
	"testing"

	"wristband/api"
)

// engines of any kind, right or not, built anew each time.
func engines() []api.Engine {
	text := []byte("text")
	return []api.Engine{
		{},
		{Kind: api.Concrete},
		{Kind: api.Symbolic, Terms: []api.Term{}},
		{Kind: api.Symbolic, Terms: []api.Term{{}}},
		{Kind: api.Symbolic, Terms: []api.Term{{Key: []byte("key"), Msg: []byte("text")}, {Key: []byte{0, 255}}, {Msg: []byte{7}}}},
		{Kind: -3, Terms: []api.Term{{Key: text, Msg: text}, {Key: text, Msg: text[1:]}}},
	}
}

// same engines, a list that is nil being an empty one?
func same(a, b api.Engine) bool {
	return a.Kind == b.Kind && slices.EqualFunc(a.Terms, b.Terms, func(x, y api.Term) bool {
		return bytes.Equal(x.Key, y.Key) && bytes.Equal(x.Msg, y.Msg)
	})
}

// spoil all of an engine's memory, its spare room, too.
func spoil(g api.Engine) {
	terms := g.Terms[:cap(g.Terms)]
	for i, t := range terms {
		for _, text := range [][]byte{t.Key[:cap(t.Key)], t.Msg[:cap(t.Msg)]} {
			for k := range text {
				text[k] ^= 85
			}
		}
		terms[i] = api.Term{Key: []byte("spoilt"), Msg: []byte("spoilt")}
	}
}

func TestEngineIsTheSame(t *testing.T) {
	for i, g := range engines() {
		if got := Engine(g); !same(got, engines()[i]) || !same(g, engines()[i]) {
			t.Errorf("Engine(%v) = %v, and left %v", engines()[i], got, g)
		}
	}
}

func TestEngineSharesNothing(t *testing.T) {
	for i, want := range engines() {
		g := engines()[i]
		got := Engine(g)
		spoil(g)
		if !same(got, want) {
			t.Errorf("Engine(%v) keeps what was handed in: %v", want, got)
		}
		g = engines()[i]
		spoil(Engine(g))
		if !same(g, want) {
			t.Errorf("Engine(%v) shares with what was handed in: %v", want, g)
		}
	}
	text := []byte("text")
	got := Engine(api.Engine{Terms: []api.Term{{Key: text, Msg: text}, {Key: text}}})
	got.Terms[0].Key[0] = 'n'
	if string(got.Terms[0].Msg) != "text" || string(got.Terms[1].Key) != "text" {
		t.Errorf("texts of an answer share memory: %q", got.Terms)
	}
}

// TestEngineHasNoneOfTheSpareRoom: what is behind a list or a text isn't copied.
func TestEngineHasNoneOfTheSpareRoom(t *testing.T) {
	text := []byte("textbehind")
	terms := []api.Term{{Key: text[:4], Msg: text[:0]}, {Key: []byte("behind")}}
	got := Engine(api.Engine{Kind: api.Symbolic, Terms: terms[:1]})
	if len(got.Terms) != 1 || string(got.Terms[0].Key) != "text" || len(got.Terms[0].Msg) != 0 {
		t.Errorf("an engine of one term came as %q", got.Terms)
	}
	_ = append(got.Terms[0].Key, "put on"...)
	_ = append(got.Terms, api.Term{Key: []byte("put on")})
	if string(text) != "textbehind" || string(terms[1].Key) != "behind" {
		t.Errorf("what was put behind an answer stands in %q, %q", text, terms)
	}
}

// disks of any kind, right or not, built anew each time.
func disks() []api.Disk {
	text := []byte("text")
	return []api.Disk{
		{},
		{Fuse: -1},
		{Areas: [2]api.Area{{Bytes: []byte("one"), Sure: 2}, {Bytes: []byte{0, 255}, Sure: 1}}, Fuse: 3, Keep: 4, Down: true},
		{Areas: [2]api.Area{{Bytes: []byte{}, Sure: -1}, {Bytes: []byte("other"), Sure: 9}}, Fuse: -7, Keep: -8},
		{Areas: [2]api.Area{{Bytes: text}, {Bytes: text[1:], Sure: 3}}},
	}
}

// sameDisk: bytes that are nil being empty ones?
func sameDisk(a, b api.Disk) bool {
	for k := range a.Areas {
		if a.Areas[k].Sure != b.Areas[k].Sure || !bytes.Equal(a.Areas[k].Bytes, b.Areas[k].Bytes) {
			return false
		}
	}
	return a.Fuse == b.Fuse && a.Keep == b.Keep && a.Down == b.Down
}

// spoilArea: all of an area's bytes, its spare room, too.
func spoilArea(a api.Area) {
	b := a.Bytes[:cap(a.Bytes)]
	for k := range b {
		b[k] ^= 85
	}
}

func TestDiskIsTheSame(t *testing.T) {
	for i, d := range disks() {
		if got := Disk(d); !sameDisk(got, disks()[i]) || !sameDisk(d, disks()[i]) {
			t.Errorf("Disk(%v) = %v, and left %v", disks()[i], got, d)
		}
	}
}

func TestDiskSharesNothing(t *testing.T) {
	for i, want := range disks() {
		d := disks()[i]
		got := Disk(d)
		spoilArea(d.Areas[0])
		spoilArea(d.Areas[1])
		if !sameDisk(got, want) {
			t.Errorf("Disk(%v) keeps what was handed in: %v", want, got)
		}
		d = disks()[i]
		got = Disk(d)
		spoilArea(got.Areas[0])
		if !sameDisk(d, want) || !bytes.Equal(got.Areas[1].Bytes, want.Areas[1].Bytes) {
			t.Errorf("the first area of Disk(%v) shares memory: %v, %v", want, d, got)
		}
		got = Disk(d)
		spoilArea(got.Areas[1])
		if !sameDisk(d, want) || !bytes.Equal(got.Areas[0].Bytes, want.Areas[0].Bytes) {
			t.Errorf("the second area of Disk(%v) shares memory: %v, %v", want, d, got)
		}
	}
}

// TestDiskHasNoneOfTheSpareRoom: what is behind an area's bytes isn't copied.
func TestDiskHasNoneOfTheSpareRoom(t *testing.T) {
	room := []byte("textbehind")
	got := Disk(api.Disk{Areas: [2]api.Area{{Bytes: room[:4]}, {Bytes: room[:0]}}})
	if string(got.Areas[0].Bytes) != "text" || len(got.Areas[1].Bytes) != 0 {
		t.Errorf("a disk came as %v", got.Areas)
	}
	_ = append(got.Areas[0].Bytes, "put on"...)
	_ = append(got.Areas[1].Bytes, "put on"...)
	if string(room) != "textbehind" {
		t.Errorf("what was put behind an answer stands in %q", room)
	}
}

// caches of any kind, right or not, built anew each time.
func caches() []api.Cache {
	return []api.Cache{
		{},
		{Room: 64, Floor: 7, Seen: []api.Use{}},
		{Room: 3, Seen: []api.Use{{Ticket: 5, Epoch: 1, Counter: 10}, {Ticket: 6}}},
		{Room: -1, Floor: 9, Seen: []api.Use{{Counter: 8}, {Epoch: 2}, {Counter: 8}}},
	}
}

// sameCache: a list that is nil being an empty one?
func sameCache(a, b api.Cache) bool {
	return a.Room == b.Room && a.Floor == b.Floor && slices.Equal(a.Seen, b.Seen)
}

// spoilCache: all that was seen, the spare room, too.
func spoilCache(c api.Cache) {
	l := c.Seen[:cap(c.Seen)]
	for k := range l {
		l[k] = api.Use{Ticket: 85, Epoch: 85, Counter: 85}
	}
}

func TestCacheIsTheSame(t *testing.T) {
	for i, c := range caches() {
		if got := Cache(c); !sameCache(got, caches()[i]) || !sameCache(c, caches()[i]) {
			t.Errorf("Cache(%v) = %v, and left %v", caches()[i], got, c)
		}
	}
}

func TestCacheSharesNothing(t *testing.T) {
	for i, want := range caches() {
		c := caches()[i]
		got := Cache(c)
		spoilCache(c)
		if !sameCache(got, want) {
			t.Errorf("Cache(%v) keeps what was handed in: %v", want, got)
		}
		c = caches()[i]
		spoilCache(Cache(c))
		if !sameCache(c, want) {
			t.Errorf("Cache(%v) shares with what was handed in: %v", want, c)
		}
	}
}

// TestCacheHasNoneOfTheSpareRoom: what is behind what was seen isn't copied.
func TestCacheHasNoneOfTheSpareRoom(t *testing.T) {
	room := []api.Use{{Ticket: 1}, {Ticket: 2}}
	got := Cache(api.Cache{Seen: room[:1]})
	if len(got.Seen) != 1 || got.Seen[0] != (api.Use{Ticket: 1}) {
		t.Errorf("a cache of one use came as %v", got)
	}
	_ = append(got.Seen, api.Use{Ticket: 9})
	if room[1] != (api.Use{Ticket: 2}) {
		t.Errorf("what was put behind an answer stands in %v", room)
	}
}

// shelves of any kind, right or not, built anew each time.
func shelves() []api.Shelf {
	text := []byte("text")
	gone := []api.Gone{{Ticket: 5, Epoch: 1}, {Ticket: 5, Epoch: 1}}
	l := []api.Shelf{
		{},
		{Turn: 1, Number: 7, Memory: api.Memory{Clock: 300, Bundle: api.Bundle{Version: 2, Entries: []api.Entry{{Ticket: 5, Epoch: 1, Seed: []byte("seed")}}, Gone: gone[:1]}}},
		{Turn: -3, Number: 1 << 63, Memory: api.Memory{Bundle: api.Bundle{Entries: []api.Entry{{Seed: text}, {Seed: text[1:]}, {}}, Gone: gone}}},
		{Memory: api.Memory{Bundle: api.Bundle{Entries: []api.Entry{}, Gone: []api.Gone{}}}},
	}
	for k := range l {
		l[k].Disk, l[k].Memory.Cache = disks()[k+1], caches()[k]
	}
	return l
}

// sameShelf: a list that is nil being an empty one?
func sameShelf(a, b api.Shelf) bool {
	x, y := a.Memory.Bundle, b.Memory.Bundle
	entries := slices.EqualFunc(x.Entries, y.Entries, func(v, w api.Entry) bool {
		return v.Ticket == w.Ticket && v.Epoch == w.Epoch && bytes.Equal(v.Seed, w.Seed)
	})
	return entries && x.Version == y.Version && slices.Equal(x.Gone, y.Gone) && a.Turn == b.Turn && a.Number == b.Number &&
		a.Memory.Clock == b.Memory.Clock && sameCache(a.Memory.Cache, b.Memory.Cache) && sameDisk(a.Disk, b.Disk)
}

// spoils of a shelf: each of its lists, their spare room, too, is spoilt by one of them.
func spoils(s api.Shelf) []func() {
	l := []func(){
		func() { spoilArea(s.Disk.Areas[0]) },
		func() { spoilArea(s.Disk.Areas[1]) },
		func() { spoilCache(s.Memory.Cache) },
		func() {
			for k := range s.Memory.Bundle.Gone[:cap(s.Memory.Bundle.Gone)] {
				s.Memory.Bundle.Gone[:k+1][k] = api.Gone{Ticket: 85}
			}
		},
		func() {
			for k := range s.Memory.Bundle.Entries[:cap(s.Memory.Bundle.Entries)] {
				s.Memory.Bundle.Entries[:k+1][k] = api.Entry{Ticket: 85}
			}
		},
	}
	for _, e := range s.Memory.Bundle.Entries {
		l = append(l, func() { spoilArea(api.Area{Bytes: e.Seed}) })
	}
	return l
}

func TestShelfIsTheSame(t *testing.T) {
	for i, s := range shelves() {
		if got := Shelf(s); !sameShelf(got, shelves()[i]) || !sameShelf(s, shelves()[i]) {
			t.Errorf("Shelf(%v) = %v, and left %v", shelves()[i], got, s)
		}
		if got := Memory(s.Memory); !sameShelf(api.Shelf{Memory: got}, api.Shelf{Memory: s.Memory}) {
			t.Errorf("Memory(%v) = %v", s.Memory, got)
		}
		if got := Bundle(s.Memory.Bundle); !sameShelf(api.Shelf{Memory: api.Memory{Bundle: got}}, api.Shelf{Memory: api.Memory{Bundle: s.Memory.Bundle}}) {
			t.Errorf("Bundle(%v) = %v", s.Memory.Bundle, got)
		}
	}
}

func TestShelfSharesNothing(t *testing.T) {
	for i, want := range shelves() {
		for k := range spoils(want) {
			s := shelves()[i]
			got := Shelf(s)
			spoils(s)[k]()
			if !sameShelf(got, want) {
				t.Errorf("Shelf(%v) keeps what was handed in: %v", want, got)
			}
			s = shelves()[i]
			got = Shelf(s)
			spoils(got)[k]()
			if !sameShelf(s, want) {
				t.Errorf("Shelf(%v) shares with what was handed in: %v", want, s)
			}
			alone := 0
			for _, part := range partsOf(got, want) {
				if !part {
					alone++
				}
			}
			if alone > 1 {
				t.Errorf("lists of Shelf(%v) share memory: %v", want, got)
			}
		}
	}
}

// partsOf two shelves: which of their lists are the same?
func partsOf(a, b api.Shelf) []bool {
	l := []bool{
		bytes.Equal(a.Disk.Areas[0].Bytes, b.Disk.Areas[0].Bytes),
		bytes.Equal(a.Disk.Areas[1].Bytes, b.Disk.Areas[1].Bytes),
		slices.Equal(a.Memory.Cache.Seen, b.Memory.Cache.Seen),
		slices.Equal(a.Memory.Bundle.Gone, b.Memory.Bundle.Gone),
	}
	x, y := a.Memory.Bundle.Entries, b.Memory.Bundle.Entries
	if len(x) > 0 && x[0].Ticket == 85 {
		return append(l, false)
	}
	for k := range y {
		l = append(l, bytes.Equal(x[k].Seed, y[k].Seed))
	}
	return l
}

// TestShelfHasNoneOfTheSpareRoom: what is behind a list isn't copied.
func TestShelfHasNoneOfTheSpareRoom(t *testing.T) {
	entries := []api.Entry{{Ticket: 1, Seed: []byte("seedbehind")[:4]}, {Ticket: 2}}
	gone := []api.Gone{{Ticket: 1}, {Ticket: 2}}
	got := Bundle(api.Bundle{Entries: entries[:1], Gone: gone[:1]})
	if len(got.Entries) != 1 || len(got.Gone) != 1 || string(got.Entries[0].Seed) != "seed" {
		t.Errorf("a bundle of one entry came as %v", got)
	}
	_ = append(got.Entries, api.Entry{Ticket: 9})
	_ = append(got.Gone, api.Gone{Ticket: 9})
	_ = append(got.Entries[0].Seed, "put on"...)
	if entries[1].Ticket != 2 || gone[1].Ticket != 2 || string(entries[0].Seed[:10]) != "seedbehind" {
		t.Errorf("what was put behind an answer stands in %v, %v", entries, gone)
	}
}

// issuers of any kind, right or not, built anew each time.
func issuers() []api.Issuer {
	text := []byte("text")
	gone := []api.Gone{{Ticket: 5, Epoch: 1}, {Ticket: 5, Epoch: 1}}
	return []api.Issuer{
		{},
		{Key: []byte{}, Holders: []api.Holder{}, Gone: []api.Gone{}},
		{Key: []byte("key"), Version: 7, Holders: []api.Holder{{Ticket: 5, Epoch: 1, Device: 2, Seed: []byte("seed")}, {Ticket: 6}}, Gone: gone[:1]},
		{Key: text, Version: 1 << 63, Holders: []api.Holder{{Seed: text}, {Seed: text[1:]}, {Epoch: 9}, {Epoch: 9}}, Gone: gone},
	}
}

// sameIssuer: a list that is nil being an empty one?
func sameIssuer(a, b api.Issuer) bool {
	holders := slices.EqualFunc(a.Holders, b.Holders, func(v, w api.Holder) bool {
		return v.Ticket == w.Ticket && v.Epoch == w.Epoch && v.Device == w.Device && bytes.Equal(v.Seed, w.Seed)
	})
	return holders && bytes.Equal(a.Key, b.Key) && a.Version == b.Version && slices.Equal(a.Gone, b.Gone)
}

// spoilsOfIssuer: each of its lists, their spare room, too, is spoilt by one of them.
func spoilsOfIssuer(s api.Issuer) []func() {
	l := []func(){
		func() { spoilArea(api.Area{Bytes: s.Key}) },
		func() {
			for k := range s.Gone[:cap(s.Gone)] {
				s.Gone[:k+1][k] = api.Gone{Ticket: 85}
			}
		},
		func() {
			for k := range s.Holders[:cap(s.Holders)] {
				s.Holders[:k+1][k] = api.Holder{Ticket: 85}
			}
		},
	}
	for _, h := range s.Holders {
		l = append(l, func() { spoilArea(api.Area{Bytes: h.Seed}) })
	}
	return l
}

func TestIssuerIsTheSame(t *testing.T) {
	for i, s := range issuers() {
		if got := Issuer(s); !sameIssuer(got, issuers()[i]) || !sameIssuer(s, issuers()[i]) {
			t.Errorf("Issuer(%v) = %v, and left %v", issuers()[i], got, s)
		}
	}
}

func TestIssuerSharesNothing(t *testing.T) {
	for i, want := range issuers() {
		for k := range spoilsOfIssuer(want) {
			s := issuers()[i]
			got := Issuer(s)
			spoilsOfIssuer(s)[k]()
			if !sameIssuer(got, want) {
				t.Errorf("Issuer(%v) keeps what was handed in: %v", want, got)
			}
			s = issuers()[i]
			spoilsOfIssuer(Issuer(s))[k]()
			if !sameIssuer(s, want) {
				t.Errorf("Issuer(%v) shares with what was handed in: %v", want, s)
			}
		}
	}
	text := []byte("text")
	got := Issuer(api.Issuer{Key: text, Holders: []api.Holder{{Seed: text}, {Seed: text}}})
	got.Key[0], got.Holders[0].Seed[1] = 'n', 'o'
	if string(got.Key) != "next" || string(got.Holders[0].Seed) != "toxt" || string(got.Holders[1].Seed) != "text" {
		t.Errorf("lists of an answer share memory: %q, %v", got.Key, got.Holders)
	}
}

// TestIssuerHasNoneOfTheSpareRoom: what is behind a list isn't copied.
func TestIssuerHasNoneOfTheSpareRoom(t *testing.T) {
	key, seed := []byte("keybehind"), []byte("seedbehind")
	holders := []api.Holder{{Ticket: 1, Seed: seed[:4]}, {Ticket: 2}}
	gone := []api.Gone{{Ticket: 1}, {Ticket: 2}}
	got := Issuer(api.Issuer{Key: key[:3], Holders: holders[:1], Gone: gone[:1]})
	if len(got.Holders) != 1 || len(got.Gone) != 1 || string(got.Key) != "key" || string(got.Holders[0].Seed) != "seed" {
		t.Errorf("an issuer of one holder came as %v", got)
	}
	_ = append(got.Key, "put on"...)
	_ = append(got.Holders, api.Holder{Ticket: 9})
	_ = append(got.Gone, api.Gone{Ticket: 9})
	_ = append(got.Holders[0].Seed, "put on"...)
	if string(key) != "keybehind" || string(seed) != "seedbehind" || holders[1].Ticket != 2 || gone[1].Ticket != 2 {
		t.Errorf("what was put behind an answer stands in %q, %q, %v, %v", key, seed, holders, gone)
	}
}
