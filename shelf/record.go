package shelf

import (
	"wristband/api"
	"wristband/bundle"
	"wristband/cache"
	"wristband/reader"
	"wristband/slip"
	"wristband/word"
)

// What the records begin with.
const (
	useMark    = 85
	bundleMark = 78
	memoryMark = 77
)

// held: what an area has.
type held struct {
	// some: has it anything?
	some   bool
	number uint64
	memory api.Memory
	// all of its bytes are those of slips by which the memory goes on.
	all bool
}

// newest of a disk's areas, and what it has.
func newest(d api.Disk) (int, held) {
	var areas [2]held
	for k, a := range d.Areas {
		areas[k] = hold(a.Bytes)
	}
	if !areas[0].some || areas[1].some && areas[1].number > areas[0].number {
		return 1, areas[1]
	}
	return 0, areas[0]
}

// hold: what an area of these bytes has.
func hold(b []byte) held {
	texts, n := slip.Row(b)
	if len(texts) == 0 {
		return held{}
	}
	number, m, e := readMemory(texts[0])
	if e != api.OK {
		return held{}
	}
	for _, text := range texts[1:] {
		next, e := onward(m, text)
		if e != api.OK {
			return held{some: true, number: number, memory: m}
		}
		m = next
	}
	return held{some: true, number: number, memory: m, all: n == len(b)}
}

// onward from a right memory by a text; not OK, if it doesn't go on by that.
func onward(m api.Memory, text []byte) (api.Memory, api.Errno) {
	r := &reader.Reader{Left: text}
	switch r.One() {
	case useMark:
		return onwardByUse(m, r)
	case bundleMark:
		return onwardByBundle(m, r)
	}
	return m, api.ErrForm
}

// onwardByUse that is to be left of a record.
func onwardByUse(m api.Memory, r *reader.Reader) (api.Memory, api.Errno) {
	u := readUse(r)
	clock, floor := r.Number(), r.Number()
	r.End()
	if r.Wrong != api.OK {
		return m, r.Wrong
	}
	return used(m, u, clock, floor)
}

// onwardByBundle that is to be left of a record.
func onwardByBundle(m api.Memory, r *reader.Reader) (api.Memory, api.Errno) {
	x := readBundle(r)
	if r.Wrong != api.OK {
		return m, r.Wrong
	}
	return installed(m, x)
}

// used: a right memory behind a use.
func used(m api.Memory, u api.Use, clock, floor uint64) (api.Memory, api.Errno) {
	if clock < m.Clock {
		return m, api.ErrOld
	}
	// The cache of a right memory is right.
	raised, _ := cache.Raise(m.Cache, floor)
	c, e := cache.Put(raised, u)
	if e != api.OK {
		return m, e
	}
	m.Clock, m.Cache = clock, c
	return m, api.OK
}

// installed: a memory behind a right bundle.
func installed(m api.Memory, x api.Bundle) (api.Memory, api.Errno) {
	if x.Version <= m.Bundle.Version {
		return m, api.ErrOld
	}
	m.Bundle = x
	return m, api.OK
}

// useRecord of a use, a clock and a floor.
func useRecord(u api.Use, clock, floor uint64) []byte {
	return append([]byte{useMark}, numbers(u.Ticket, u.Epoch, u.Counter, clock, floor)...)
}

// bundleRecord of a right bundle.
func bundleRecord(x api.Bundle) []byte {
	b, _ := bundle.Bytes(x)
	return append([]byte{bundleMark}, b...)
}

// memoryRecord of a number and a right memory.
func memoryRecord(number uint64, m api.Memory) []byte {
	b := append([]byte{memoryMark}, numbers(number, m.Clock)...)
	b = append(b, byte(m.Cache.Room))
	b = append(b, numbers(m.Cache.Floor)...)
	b = append(b, byte(len(m.Cache.Seen)))
	for _, u := range m.Cache.Seen {
		b = append(b, numbers(u.Ticket, u.Epoch, u.Counter)...)
	}
	x, _ := bundle.Bytes(m.Bundle)
	return append(b, x...)
}

// readMemory: the number and the right memory whose record a text is.
func readMemory(text []byte) (uint64, api.Memory, api.Errno) {
	r := &reader.Reader{Left: text}
	var m api.Memory
	r.Mark(memoryMark)
	number := r.Number()
	m.Clock = r.Number()
	m.Cache.Room = int(r.One())
	m.Cache.Floor = r.Number()
	for range int(r.One()) {
		m.Cache.Seen = append(m.Cache.Seen, readUse(r))
	}
	m.Bundle = readBundle(r)
	if !RightMemory(m) {
		r.Keep(api.ErrForm)
	}
	return number, m, r.Wrong
}

// readUse reads the use that comes next.
func readUse(r *reader.Reader) api.Use {
	var u api.Use
	u.Ticket = r.Number()
	u.Epoch = r.Number()
	u.Counter = r.Number()
	return u
}

// readBundle reads the bundle that all of the rest is to be.
func readBundle(r *reader.Reader) api.Bundle {
	x, n, e := bundle.Read(r.Left)
	r.Keep(e)
	r.Next(n)
	r.End()
	return x
}

// numbers, one behind the other.
func numbers(l ...uint64) []byte {
	var b []byte
	for _, v := range l {
		b = append(b, word.Put(v)...)
	}
	return b
}
