package frame

import (
	"bytes"
	"math"
	"math/rand/v2"
	"slices"
	"testing"

	"wristband/api"
)

// some bytes by chance.
func some(r *rand.Rand, n int) []byte {
	b := make([]byte, n)
	for k := range b {
		b[k] = byte(r.Uint32())
	}
	return b
}

// number by chance, of any length.
func number(r *rand.Rand) uint64 {
	return r.Uint64() >> r.IntN(65)
}

// payload by chance, that is right.
func payload(r *rand.Rand) api.Payload {
	return api.Payload{Ticket: number(r), Epoch: number(r), Counter: number(r), Tag: some(r, api.TagSize)}
}

// edges: numbers at which they become longer by a byte, and some between.
func edges() []uint64 {
	l := []uint64{0, 2, 67, 87, 127, 128, 258, math.MaxUint64}
	for k := range 64 {
		l = append(l, 1<<k-1, 1<<k, 1<<k+1)
	}
	return l
}

// tag of eight bytes, all of them unlike.
func tag() []byte { return []byte{201, 202, 203, 204, 205, 206, 207, 208} }

// otherNumber: how many bytes it takes, and these, by dividing.
func otherNumber(v uint64) []byte {
	var b []byte
	for ; v > 0; v /= 256 {
		b = slices.Insert(b, 0, byte(v%256))
	}
	return slices.Insert(b, 0, byte(len(b)))
}

// otherWrite puts a payload's bytes one behind the other.
func otherWrite(p api.Payload) []byte {
	return slices.Concat([]byte{87}, otherNumber(p.Ticket), otherNumber(p.Epoch), otherNumber(p.Counter), p.Tag)
}

// otherRead goes from byte to byte, and asks at each what the chapter asks there.
func otherRead(b []byte) (api.Payload, api.Errno) {
	if len(b) == 0 {
		return api.Payload{}, api.ErrShort
	}
	if b[0] != 87 {
		return api.Payload{}, api.ErrForm
	}
	at := 1
	var numbers [3]uint64
	for k := range numbers {
		if at >= len(b) {
			return api.Payload{}, api.ErrShort
		}
		many := int(b[at])
		at++
		if many > 8 {
			return api.Payload{}, api.ErrLong
		}
		if at+many > len(b) {
			return api.Payload{}, api.ErrShort
		}
		if many > 0 && b[at] == 0 {
			return api.Payload{}, api.ErrForm
		}
		for range many {
			numbers[k] = numbers[k]*256 + uint64(b[at])
			at++
		}
	}
	if at+8 > len(b) {
		return api.Payload{}, api.ErrShort
	}
	if at+8 < len(b) {
		return api.Payload{}, api.ErrLong
	}
	return api.Payload{Ticket: numbers[0], Epoch: numbers[1], Counter: numbers[2], Tag: b[at:]}, api.OK
}

// same payloads? A list may be nil or empty alike.
func same(p, q api.Payload) bool {
	return p.Ticket == q.Ticket && p.Epoch == q.Epoch && p.Counter == q.Counter && bytes.Equal(p.Tag, q.Tag)
}

// checkWrite: what Write answers, and that what is handed in stays.
func checkWrite(t *testing.T, p api.Payload, want []byte, wantE api.Errno) {
	t.Helper()
	was := slices.Clone(p.Tag)
	if got, e := Write(p); !bytes.Equal(got, want) || e != wantE {
		t.Errorf("Write(%v) = %v, %v, want %v, %v", p, got, e, want, wantE)
	}
	if !bytes.Equal(p.Tag, was) {
		t.Errorf("Write left the tag %v as %v", was, p.Tag)
	}
}

// checkRead: what Read answers, and that what is handed in stays.
func checkRead(t *testing.T, b []byte, want api.Payload, wantE api.Errno) {
	t.Helper()
	was := slices.Clone(b)
	if got, e := Read(b); !same(got, want) || e != wantE {
		t.Errorf("Read(%v) = %v, %v, want %v, %v", was, got, e, want, wantE)
	}
	if !bytes.Equal(b, was) {
		t.Errorf("Read(%v) left %v", was, b)
	}
}

// checkReadAlike: what Read answers is what goes from byte to byte, too.
func checkReadAlike(t *testing.T, b []byte) {
	t.Helper()
	want, wantE := otherRead(b)
	checkRead(t, b, want, wantE)
}

// example of a payload, and its bytes.
type example struct {
	p api.Payload
	b []byte
}

func examples() []example {
	return []example{
		{api.Payload{Ticket: 258, Epoch: 1, Counter: 0, Tag: tag()}, slices.Concat([]byte{87, 2, 1, 2, 1, 1, 0}, tag())},
		{api.Payload{Tag: tag()}, slices.Concat([]byte{87, 0, 0, 0}, tag())},
		{api.Payload{Tag: make([]byte, 8)}, []byte{87, 0, 0, 0, 0, 0, 0, 0, 0, 0, 0, 0}},
		{api.Payload{Ticket: 5, Epoch: 1, Counter: 10, Tag: tag()}, slices.Concat([]byte{87, 1, 5, 1, 1, 1, 10}, tag())},
		{api.Payload{Ticket: 1, Tag: tag()}, slices.Concat([]byte{87, 1, 1, 0, 0}, tag())},
		{api.Payload{Epoch: 2, Tag: tag()}, slices.Concat([]byte{87, 0, 1, 2, 0}, tag())},
		{api.Payload{Counter: 3, Tag: tag()}, slices.Concat([]byte{87, 0, 0, 1, 3}, tag())},
		{api.Payload{Ticket: 255, Epoch: 256, Counter: 65536, Tag: tag()}, slices.Concat([]byte{87, 1, 255, 2, 1, 0, 3, 1, 0, 0}, tag())},
		{api.Payload{Ticket: 87, Epoch: 67, Counter: 8, Tag: bytes.Repeat([]byte{87}, 8)}, slices.Concat([]byte{87, 1, 87, 1, 67, 1, 8}, bytes.Repeat([]byte{87}, 8))},
		{
			api.Payload{Ticket: math.MaxUint64, Epoch: 1 << 63, Counter: 1 << 56, Tag: bytes.Repeat([]byte{255}, 8)},
			slices.Concat([]byte{87, 8, 255, 255, 255, 255, 255, 255, 255, 255, 8, 128, 0, 0, 0, 0, 0, 0, 0, 8, 1, 0, 0, 0, 0, 0, 0, 0}, bytes.Repeat([]byte{255}, 8)),
		},
		{
			api.Payload{Ticket: 1<<56 - 1, Epoch: 1<<32 + 2, Counter: 0x0102030405060708, Tag: tag()},
			slices.Concat([]byte{87, 7, 255, 255, 255, 255, 255, 255, 255, 5, 1, 0, 0, 0, 2, 8, 1, 2, 3, 4, 5, 6, 7, 8}, tag()),
		},
	}
}

// P12.1

func TestRight(t *testing.T) {
	for n := range 300 {
		p := api.Payload{Ticket: 1, Epoch: 2, Counter: 3, Tag: make([]byte, n)}
		if got := Right(p); got != (n == 8) {
			t.Errorf("Right with a tag of %d bytes = %v", n, got)
		}
	}
	if Right(api.Payload{}) || Right(api.Payload{Ticket: 8, Epoch: 8, Counter: 8}) || Right(api.Payload{Tag: []byte{}}) {
		t.Error("a payload is right without a tag")
	}
	// Room behind a tag is no part of it.
	if Right(api.Payload{Tag: make([]byte, 7, 8)}) || !Right(api.Payload{Tag: make([]byte, 8, 16)}) {
		t.Error("a tag's spare room counts")
	}
	for _, v := range edges() {
		for _, p := range []api.Payload{{Ticket: v, Tag: tag()}, {Epoch: v, Tag: tag()}, {Counter: v, Tag: tag()}} {
			if !Right(p) {
				t.Errorf("Right(%v) = false", p)
			}
		}
	}
}

func TestWriteExamples(t *testing.T) {
	for _, x := range examples() {
		checkWrite(t, x.p, x.b, api.OK)
	}
}

func TestWriteOfWhatIsNotRight(t *testing.T) {
	checkWrite(t, api.Payload{}, nil, api.ErrArg)
	for n := range 300 {
		if n != 8 {
			checkWrite(t, api.Payload{Ticket: 258, Epoch: 1, Tag: bytes.Repeat([]byte{7}, n)}, nil, api.ErrArg)
			checkWrite(t, api.Payload{Tag: make([]byte, n, n+8)}, nil, api.ErrArg)
		}
	}
}

func TestWriteAsTheChapterSays(t *testing.T) {
	for _, v := range edges() {
		for _, p := range []api.Payload{{Ticket: v, Tag: tag()}, {Epoch: v, Tag: tag()}, {Counter: v, Tag: tag()}, {Ticket: v, Epoch: v, Counter: v, Tag: tag()}} {
			checkWrite(t, p, otherWrite(p), api.OK)
		}
	}
	r := rand.New(rand.NewPCG(170, 171))
	for range 20000 {
		p := payload(r)
		checkWrite(t, p, otherWrite(p), api.OK)
	}
}

func TestMsgExamples(t *testing.T) {
	for _, x := range []struct {
		ticket, epoch, counter uint64
		want                   []byte
	}{
		{0, 0, 0, append([]byte{67}, make([]byte, 24)...)},
		{258, 1, 0, []byte{67, 0, 0, 0, 0, 0, 0, 1, 2, 0, 0, 0, 0, 0, 0, 0, 1, 0, 0, 0, 0, 0, 0, 0, 0}},
		{5, 1, 10, []byte{67, 0, 0, 0, 0, 0, 0, 0, 5, 0, 0, 0, 0, 0, 0, 0, 1, 0, 0, 0, 0, 0, 0, 0, 10}},
		{0x0102030405060708, 0x1112131415161718, 0x2122232425262728, []byte{67, 1, 2, 3, 4, 5, 6, 7, 8, 17, 18, 19, 20, 21, 22, 23, 24, 33, 34, 35, 36, 37, 38, 39, 40}},
		{math.MaxUint64, math.MaxUint64, math.MaxUint64, append([]byte{67}, bytes.Repeat([]byte{255}, 24)...)},
	} {
		if got := Msg(x.ticket, x.epoch, x.counter); !bytes.Equal(got, x.want) {
			t.Errorf("Msg(%d, %d, %d) = %v, want %v", x.ticket, x.epoch, x.counter, got, x.want)
		}
	}
}

func TestMsgAsTheChapterSays(t *testing.T) {
	r := rand.New(rand.NewPCG(172, 173))
	for range 20000 {
		numbers := [3]uint64{number(r), number(r), number(r)}
		want := make([]byte, 25)
		want[0] = 67
		for k, v := range numbers {
			for i := range 8 {
				want[8*k+8-i] = byte(v % 256)
				v /= 256
			}
		}
		if got := Msg(numbers[0], numbers[1], numbers[2]); !bytes.Equal(got, want) {
			t.Errorf("Msg(%v) = %v, want %v", numbers, got, want)
		}
	}
}

// P12.2

func TestReadExamples(t *testing.T) {
	for _, x := range examples() {
		checkRead(t, x.b, x.p, api.OK)
	}
}

func TestReadOfWhatIsNone(t *testing.T) {
	nines := bytes.Repeat([]byte{9}, 60)
	for _, x := range []struct {
		b    []byte
		want api.Errno
	}{
		// A byte is missing: of all, of how many a number has, of a number, of the tag.
		{nil, api.ErrShort}, {[]byte{}, api.ErrShort}, {[]byte{87}, api.ErrShort},
		{[]byte{87, 0}, api.ErrShort}, {[]byte{87, 0, 0}, api.ErrShort}, {[]byte{87, 0, 0, 0}, api.ErrShort},
		{[]byte{87, 1}, api.ErrShort}, {[]byte{87, 2, 1}, api.ErrShort}, {[]byte{87, 8, 1, 2, 3, 4, 5, 6, 7}, api.ErrShort},
		{[]byte{87, 1, 1, 1}, api.ErrShort}, {[]byte{87, 1, 1, 1, 1, 1}, api.ErrShort}, {[]byte{87, 1, 1, 1, 1, 1, 1}, api.ErrShort},
		{append([]byte{87, 0, 0, 0}, tag()[:1]...), api.ErrShort}, {append([]byte{87, 0, 0, 0}, tag()[:7]...), api.ErrShort},
		// All of a number's bytes are asked for ahead of looking at the first of them.
		{[]byte{87, 2, 0}, api.ErrShort}, {[]byte{87, 8, 0, 0, 0, 0, 0, 0, 0}, api.ErrShort}, {[]byte{87, 0, 3, 0, 0}, api.ErrShort}, {[]byte{87, 0, 0, 2, 0}, api.ErrShort},
		// The first one isn't 87, whatever is behind it, and if nothing is.
		{[]byte{86}, api.ErrForm}, {[]byte{88}, api.ErrForm}, {[]byte{0}, api.ErrForm}, {[]byte{255}, api.ErrForm}, {[]byte{67, 0, 0, 0}, api.ErrForm},
		{append([]byte{86, 0, 0, 0}, tag()...), api.ErrForm}, {append([]byte{86, 0, 0, 0, 0}, tag()...), api.ErrForm}, {append([]byte{86}, nines...), api.ErrForm}, {[]byte{215, 0, 0, 0}, api.ErrForm},
		// A number has more than eight bytes: told ahead of looking whether they are there, and what they are.
		{[]byte{87, 9}, api.ErrLong}, {[]byte{87, 255}, api.ErrLong}, {[]byte{87, 9, 0}, api.ErrLong}, {append([]byte{87}, nines...), api.ErrLong},
		{append([]byte{87, 9}, make([]byte, 60)...), api.ErrLong}, {[]byte{87, 0, 9}, api.ErrLong}, {[]byte{87, 0, 0, 9}, api.ErrLong}, {[]byte{87, 1, 1, 1, 1, 128, 1}, api.ErrLong},
		{append([]byte{87, 0, 0, 9}, make([]byte, 17)...), api.ErrLong},
		// A number's first byte is 0.
		{[]byte{87, 1, 0}, api.ErrForm}, {[]byte{87, 2, 0, 1}, api.ErrForm}, {[]byte{87, 8, 0, 1, 1, 1, 1, 1, 1, 1}, api.ErrForm},
		{[]byte{87, 0, 1, 0}, api.ErrForm}, {[]byte{87, 0, 0, 1, 0}, api.ErrForm}, {append([]byte{87, 0, 0, 1, 0}, tag()...), api.ErrForm}, {append([]byte{87, 2, 0, 1, 0, 0}, tag()...), api.ErrForm},
		// What is wrong with an elder number is told, whatever a later one is.
		{[]byte{87, 1, 0, 9}, api.ErrForm}, {[]byte{87, 9, 1, 0}, api.ErrLong}, {[]byte{87, 0, 1, 0, 9}, api.ErrForm}, {[]byte{87, 1, 1, 9, 1, 0}, api.ErrLong},
		// Bytes are left behind the tag.
		{append([]byte{87, 0, 0, 0, 0}, tag()...), api.ErrLong}, {append([]byte{87, 1, 1, 0, 0}, make([]byte, 9)...), api.ErrLong},
		{append([]byte{87, 0, 0, 0}, make([]byte, 300)...), api.ErrLong}, {append([]byte{87, 2, 1, 2, 1, 1, 0}, make([]byte, 16)...), api.ErrLong},
	} {
		checkRead(t, x.b, api.Payload{}, x.want)
	}
}

// TestReadOfAnyFirst byte, alone, and ahead of what would be right.
func TestReadOfAnyFirst(t *testing.T) {
	for c := range 256 {
		first := []byte{byte(c)}
		for _, rest := range [][]byte{nil, {0}, {9}, {1, 0}, slices.Concat([]byte{0, 0, 0}, tag()), slices.Concat([]byte{0, 0, 0}, tag(), tag())} {
			b := slices.Concat(first, rest)
			if c != 87 {
				checkRead(t, b, api.Payload{}, api.ErrForm)
			}
			checkReadAlike(t, b)
		}
	}
}

// TestReadOfAnyLength of each number, with as many bytes behind it, with fewer, and with more.
func TestReadOfAnyLength(t *testing.T) {
	for _, ahead := range [][]byte{{87}, {87, 0}, {87, 1, 1}, {87, 0, 0}, {87, 2, 1, 0, 1, 7}} {
		for many := range 256 {
			for _, c := range []byte{0, 1, 9, 255} {
				for n := range 40 {
					checkReadAlike(t, slices.Concat(ahead, []byte{byte(many)}, bytes.Repeat([]byte{c}, n)))
				}
			}
		}
	}
}

// TestReadOfAllShort: all bytes up to seven of a few kinds, with and without a tag's bytes behind them.
func TestReadOfAllShort(t *testing.T) {
	kinds := []byte{0, 1, 2, 8, 9, 87}
	behind := [][]byte{nil, tag()[:7], tag(), slices.Concat(tag(), []byte{0})}
	for _, first := range []byte{86, 87} {
		all := [][]byte{{first}}
		for range 7 {
			var longer [][]byte
			for _, b := range all {
				for _, rest := range behind {
					checkReadAlike(t, slices.Concat(b, rest))
				}
				for _, c := range kinds {
					longer = append(longer, slices.Concat(b, []byte{c}))
				}
			}
			// What is wrong already need not be gone on with, whatever follows.
			if first != 87 {
				break
			}
			all = longer
		}
	}
}

// TestReadOfWhatWasChanged: a byte changed, left away or put in anywhere, bytes cut off or put behind.
func TestReadOfWhatWasChanged(t *testing.T) {
	r := rand.New(rand.NewPCG(174, 175))
	for range 30 {
		b := otherWrite(payload(r))
		for k := range b {
			checkRead(t, b[:k], api.Payload{}, api.ErrShort)
			checkReadAlike(t, slices.Delete(slices.Clone(b), k, k+1))
			for c := range 256 {
				changed := slices.Clone(b)
				changed[k] = byte(c)
				checkReadAlike(t, changed)
				checkReadAlike(t, slices.Insert(slices.Clone(b), k, byte(c)))
			}
		}
		for c := range 256 {
			checkRead(t, slices.Concat(b, []byte{byte(c)}), api.Payload{}, api.ErrLong)
		}
		checkRead(t, slices.Concat(b, b), api.Payload{}, api.ErrLong)
		checkRead(t, slices.Concat(b, make([]byte, 1<<16)), api.Payload{}, api.ErrLong)
	}
}

// TestReadAsFarAsTheBytesGo: spare room behind them is not looked at.
func TestReadAsFarAsTheBytesGo(t *testing.T) {
	for _, x := range examples() {
		room := slices.Concat(x.b, x.b)
		for k := range x.b {
			checkRead(t, room[:k], api.Payload{}, api.ErrShort)
		}
		checkRead(t, room[:len(x.b)], x.p, api.OK)
	}
}

// P12.3

// checkBack: a payload is read from its bytes as it was.
func checkBack(t *testing.T, p api.Payload) {
	t.Helper()
	b, e := Write(p)
	if e != api.OK {
		t.Errorf("Write(%v) = %v, %v", p, b, e)
	}
	checkRead(t, b, p, api.OK)
}

// checkJust: if bytes are read, they are those of what is read; whether they were.
func checkJust(t *testing.T, b []byte) bool {
	t.Helper()
	p, e := Read(b)
	if e != api.OK {
		return false
	}
	if !Right(p) {
		t.Errorf("Read(%v) = %v, which isn't right", b, p)
	}
	checkWrite(t, p, b, api.OK)
	return true
}

func TestBack(t *testing.T) {
	for _, x := range examples() {
		checkBack(t, x.p)
	}
	for _, v := range edges() {
		for _, w := range []uint64{0, 1, 256, math.MaxUint64} {
			for _, p := range []api.Payload{{Ticket: v, Epoch: w, Tag: tag()}, {Epoch: v, Counter: w, Tag: tag()}, {Counter: v, Ticket: w, Tag: tag()}, {Ticket: v, Epoch: v, Counter: v, Tag: tag()}} {
				checkBack(t, p)
			}
		}
	}
	r := rand.New(rand.NewPCG(176, 177))
	for range 20000 {
		checkBack(t, payload(r))
	}
}

func TestJust(t *testing.T) {
	r := rand.New(rand.NewPCG(178, 179))
	read := 0
	for range 100000 {
		b := otherWrite(payload(r))
		// One change, or two, of what says how long a number is may leave bytes that are a payload's, too.
		for range 1 + r.IntN(2) {
			b[1+r.IntN(len(b)-1)] = byte(r.IntN(12))
		}
		if checkJust(t, b) {
			read++
		}
		checkJust(t, slices.Concat([]byte{87}, some(r, 11+r.IntN(26))))
	}
	if read < 10000 {
		t.Errorf("only %d of what was changed are read", read)
	}
}

// TestUnlike: no two payloads of a few numbers and tags have the same bytes, nor the same of which their tag is.
func TestUnlike(t *testing.T) {
	numbers := []uint64{0, 1, 2, 8, 87, 255, 256, 257, 258, 511, 65535, 65536, 1 << 24, 1<<56 - 1, 1 << 56, math.MaxUint64}
	tags := [][]byte{make([]byte, 8), {0, 0, 0, 0, 0, 0, 0, 1}, {1, 0, 0, 0, 0, 0, 0, 0}, tag()}
	written, tagged := map[string]bool{}, map[string]bool{}
	for _, ticket := range numbers {
		for _, epoch := range numbers {
			for _, counter := range numbers {
				for _, tag := range tags {
					b, _ := Write(api.Payload{Ticket: ticket, Epoch: epoch, Counter: counter, Tag: tag})
					written[string(b)] = true
				}
				tagged[string(Msg(ticket, epoch, counter))] = true
			}
		}
	}
	many := len(numbers) * len(numbers) * len(numbers)
	if len(written) != many*len(tags) || len(tagged) != many {
		t.Errorf("%d of %d payloads, and %d of %d texts, are unlike", len(written), many*len(tags), len(tagged), many)
	}
}

// The rules that hold everywhere.

func TestNoneBesideAnError(t *testing.T) {
	for _, b := range [][]byte{nil, {86}, {87, 9}, {87, 1, 0}, {87, 1, 5, 1, 1, 1, 10}, slices.Concat([]byte{87, 1, 5, 1, 1, 1, 10}, tag(), tag()), slices.Concat([]byte{87, 1, 5, 1, 1, 1, 10}, tag()[:7])} {
		if p, e := Read(b); p.Ticket != 0 || p.Epoch != 0 || p.Counter != 0 || len(p.Tag) != 0 || e == api.OK {
			t.Errorf("Read(%v) = %v, %v", b, p, e)
		}
	}
	if b, e := Write(api.Payload{Ticket: 5, Tag: tag()[:7]}); len(b) != 0 || e != api.ErrArg {
		t.Errorf("Write = %v, %v", b, e)
	}
}

func TestAnswersAreNewMemory(t *testing.T) {
	write := func(b []byte) []byte {
		answer, _ := Write(api.Payload{Ticket: 258, Epoch: 1, Tag: b})
		return answer
	}
	read := func(b []byte) []byte {
		p, _ := Read(b)
		return p.Tag
	}
	msg := func([]byte) []byte { return Msg(258, 1, 0) }
	for _, call := range []func([]byte) []byte{write, read, msg} {
		for _, text := range [][]byte{nil, tag(), tag()[:7], slices.Concat([]byte{87, 0, 0, 0}, tag()), slices.Concat([]byte{87, 2, 1, 2, 1, 1, 0}, tag())} {
			rest := bytes.Repeat([]byte{111}, 70)
			room := slices.Concat(text, rest)
			answer, again := call(room[:len(text)]), call(room[:len(text)])
			want := slices.Clone(again)
			// All the room of an answer is written over: nothing else may be seen to change by it.
			answer = answer[:cap(answer)]
			for k := range answer {
				answer[k] ^= 255
			}
			if !bytes.Equal(room, slices.Concat(text, rest)) {
				t.Errorf("%v came back as %v, or shares memory with an answer", text, room)
			}
			if !bytes.Equal(again, want) {
				t.Errorf("two answers of %v share memory", text)
			}
		}
	}
}
