package bars

import (
	"bytes"
	"errors"
	"math"
	"math/rand/v2"
	"slices"
	"testing"

	"wristband/api"
	"wristband/frame"
	"wristband/mend"
	"wristband/solomon"
	"wristband/stuff"
)

// some bytes by chance.
func some(r *rand.Rand, n int) []byte {
	b := make([]byte, n)
	for k := range b {
		b[k] = byte(r.Uint32())
	}
	return b
}

// number by chance, of any length.
func number(r *rand.Rand) uint64 {
	return r.Uint64() >> r.IntN(65)
}

// payload by chance, that is right.
func payload(r *rand.Rand) api.Payload {
	return api.Payload{Ticket: number(r), Epoch: number(r), Counter: number(r), Tag: some(r, api.TagSize)}
}

// payloads at whose numbers and tags something changes, and long rows of bits that are alike.
func payloads() []api.Payload {
	var l []api.Payload
	for _, v := range []uint64{0, 1, 5, 87, 127, 128, 255, 256, 258, 65535, 65536, 1<<32 - 1, 1 << 32, 1<<56 - 1, 1 << 56, 1 << 63, math.MaxUint64 - 1, math.MaxUint64} {
		for _, w := range []uint64{0, 1, 1 << 56, math.MaxUint64} {
			for _, tag := range [][]byte{make([]byte, 8), bytes.Repeat([]byte{255}, 8), []byte("abcdefgh")} {
				l = append(l, api.Payload{Ticket: v, Epoch: w, Counter: w, Tag: tag}, api.Payload{Ticket: w, Epoch: v, Counter: w, Tag: tag}, api.Payload{Ticket: w, Epoch: w, Counter: v, Tag: tag})
			}
		}
	}
	return l
}

// same payloads? A list may be nil or empty alike.
func same(p, q api.Payload) bool {
	return p.Ticket == q.Ticket && p.Epoch == q.Epoch && p.Counter == q.Counter && bytes.Equal(p.Tag, q.Tag)
}

// spoilAt spoils a copy of some bytes at these places, in each of them for certain.
func spoilAt(r *rand.Rand, b []byte, places []int) []byte {
	b = slices.Clone(b)
	for _, k := range places {
		b[k] ^= byte(1 + r.IntN(255))
	}
	return b
}

// spoil a copy of some bytes at so many places by chance.
func spoil(r *rand.Rand, b []byte, places int) []byte {
	return spoilAt(r, b, r.Perm(len(b))[:places])
}

// unlike: at how many places are two not the same?
func unlike(a, b []byte) int {
	n := 0
	for k := range a {
		if a[k] != b[k] {
			n++
		}
	}
	return n
}

// withChecks behind some bytes, whichever these are.
func withChecks(t *testing.T, b []byte) []byte {
	t.Helper()
	all, e := solomon.Put(b, 10)
	if e != api.OK {
		t.Fatalf("Put(%v, 10): %v", b, e)
	}
	return all
}

// otherMake goes through the layers, one behind the other.
func otherMake(t *testing.T, p api.Payload) []byte {
	t.Helper()
	b, e := frame.Write(p)
	if e != api.OK {
		t.Fatalf("Write(%v): %v", p, e)
	}
	return withChecks(t, stuff.Put(b))
}

// otherRead: what is read, in how many places it was spoilt, and where something went wrong, and what; 0 and OK, if nothing did.
func otherRead(b []byte) (p api.Payload, places int, step api.Step, e api.Errno) {
	b, places, e = mend.Mend(b, 10)
	if e != api.OK {
		return api.Payload{}, 0, 1, e
	}
	b, e = stuff.Get(b[:len(b)-10])
	if e != api.OK {
		return api.Payload{}, 0, 2, e
	}
	p, e = frame.Read(b)
	if e != api.OK {
		return api.Payload{}, 0, 3, e
	}
	return p, places, 0, api.OK
}

// checkErr: an error is a fault at this step that unwraps to this number, whichever way it is asked; nil, if the number is OK.
func checkErr(t *testing.T, err error, step api.Step, e api.Errno) {
	t.Helper()
	if e == api.OK {
		if err != nil {
			t.Errorf("an error %v, want none", err)
		}
		return
	}
	var f *api.Fault
	if !errors.As(err, &f) || f == nil {
		t.Errorf("%v is no fault, want one at %d of %v", err, step, e)
		return
	}
	if f.Step != step {
		t.Errorf("a fault at %d, want %d", f.Step, step)
	}
	var code api.Errno
	if !errors.As(err, &code) || code != e {
		t.Errorf("a fault of %v, want %v", code, e)
	}
	for other := api.OK; other <= api.ErrMost; other++ {
		if errors.Is(err, other) != (other == e) {
			t.Errorf("asked whether it is %v, the fault of %v answers %v", other, e, other != e)
		}
	}
	if got, ok := f.Unwrap().(api.Errno); !ok || got != e {
		t.Errorf("the fault unwraps to %v, want %v", f.Unwrap(), e)
	}
}

// checkMake: what Make answers, and that what is handed in stays.
func checkMake(t *testing.T, p api.Payload, want []byte, e api.Errno) {
	t.Helper()
	was := slices.Clone(p.Tag)
	got, err := Make(p)
	if !bytes.Equal(got, want) {
		t.Errorf("Make(%v) = %v, want %v", p, got, want)
	}
	checkErr(t, err, 3, e)
	if !bytes.Equal(p.Tag, was) {
		t.Errorf("Make left the tag %v as %v", was, p.Tag)
	}
}

// checkRead: what Read answers, and that what is handed in stays.
func checkRead(t *testing.T, b []byte, want api.Payload, wantPlaces int, step api.Step, e api.Errno) {
	t.Helper()
	was := slices.Clone(b)
	p, places, err := Read(b)
	if !same(p, want) || places != wantPlaces {
		t.Errorf("Read(%v) = %v, %d, want %v, %d", was, p, places, want, wantPlaces)
	}
	checkErr(t, err, step, e)
	if !bytes.Equal(b, was) {
		t.Errorf("Read(%v) left %v", was, b)
	}
	if t.Failed() {
		t.Fatalf("Read(%v) isn't as it should be", was)
	}
}

// checkNone: nothing is read, but for a fault.
func checkNone(t *testing.T, b []byte, step api.Step, e api.Errno) {
	t.Helper()
	checkRead(t, b, api.Payload{}, 0, step, e)
}

// checkReadAlike: what Read answers is what the layers do, one behind the other; whether something is read.
func checkReadAlike(t *testing.T, b []byte) bool {
	t.Helper()
	p, places, step, e := otherRead(b)
	checkRead(t, b, p, places, step, e)
	return e == api.OK
}

// example of a payload, and its barcode, reckoned elsewhere.
type example struct {
	p api.Payload
	b []byte
}

func examples() []example {
	return []example{
		{
			api.Payload{Ticket: 5, Epoch: 1, Counter: 10, Tag: []byte("abcdefgh")},
			[]byte{87, 1, 130, 128, 128, 128, 133, 48, 177, 49, 178, 50, 179, 51, 180, 127, 46, 37, 57, 36, 15, 238, 201, 76, 149, 22},
		},
		{
			api.Payload{Ticket: 5, Epoch: 1, Counter: 10, Tag: []byte{0, 0, 0, 0, 0, 0, 0, 1}},
			[]byte{87, 1, 130, 128, 128, 128, 133, 1, 1, 1, 1, 1, 1, 1, 1, 1, 127, 127, 235, 192, 244, 39, 144, 211, 101, 82, 72},
		},
		{
			// One of the checks is 0: the checks aren't stuffed.
			api.Payload{Ticket: 258, Epoch: 1, Tag: []byte{201, 202, 203, 204, 205, 206, 207, 208}},
			[]byte{87, 2, 1, 129, 1, 64, 64, 50, 114, 178, 243, 51, 115, 179, 244, 63, 247, 144, 101, 152, 147, 3, 0, 8, 175, 38},
		},
		{
			api.Payload{Tag: make([]byte, 8)},
			[]byte{87, 1, 1, 1, 1, 1, 1, 1, 1, 1, 1, 1, 1, 15, 80, 228, 15, 206, 9, 147, 254, 72, 31, 245},
		},
		{
			api.Payload{Tag: bytes.Repeat([]byte{255}, 8)},
			[]byte{87, 1, 1, 1, 31, 254, 254, 254, 254, 254, 254, 254, 254, 254, 4, 53, 254, 51, 156, 209, 162, 32, 223, 235},
		},
		{
			api.Payload{Ticket: math.MaxUint64, Epoch: math.MaxUint64, Counter: math.MaxUint64, Tag: bytes.Repeat([]byte{255}, 8)},
			slices.Concat([]byte{87, 8}, bytes.Repeat([]byte{254}, 9), []byte{132, 127}, bytes.Repeat([]byte{254}, 8), []byte{132, 127}, bytes.Repeat([]byte{254}, 18), []byte{109, 0, 121, 105, 94, 210, 245, 90, 173, 91}),
		},
		{
			// One of the checks is 255.
			api.Payload{Ticket: 1 << 56, Epoch: 1 << 56, Counter: 1 << 56, Tag: make([]byte, 8)},
			slices.Concat([]byte{87, 8, 1, 128}, bytes.Repeat([]byte{1}, 7), []byte{8, 1, 128}, bytes.Repeat([]byte{1}, 7), []byte{8, 1, 128}, bytes.Repeat([]byte{1}, 16), []byte{127, 175, 83, 55, 106, 60, 129, 106, 184, 255, 180}),
		},
		{
			api.Payload{Ticket: 0x0102030405060708, Epoch: 0x1112131415161718, Counter: 0x2122232425262728, Tag: []byte{201, 202, 203, 204, 205, 206, 207, 208}},
			[]byte{87, 8, 1, 129, 1, 193, 1, 160, 192, 225, 1, 129, 17, 33, 49, 65, 81, 97, 113, 128, 130, 18, 34, 50, 66, 82, 98, 114, 140, 156, 172, 188, 204, 220, 236, 253, 15, 75, 211, 45, 217, 77, 172, 235, 220, 67, 30},
		},
	}
}

// P13.1

func TestMakeExamples(t *testing.T) {
	for _, x := range examples() {
		checkMake(t, x.p, x.b, api.OK)
	}
}

func TestMakeAsTheChapterSays(t *testing.T) {
	for _, p := range payloads() {
		checkMake(t, p, otherMake(t, p), api.OK)
	}
	r := rand.New(rand.NewPCG(180, 181))
	for range 5000 {
		p := payload(r)
		checkMake(t, p, otherMake(t, p), api.OK)
	}
}

func TestMakeOfWhatIsNotRight(t *testing.T) {
	checkMake(t, api.Payload{}, nil, api.ErrArg)
	for n := range 300 {
		if n != 8 {
			checkMake(t, api.Payload{Ticket: 5, Epoch: 1, Counter: 10, Tag: bytes.Repeat([]byte{7}, n)}, nil, api.ErrArg)
			checkMake(t, api.Payload{Tag: make([]byte, n, n+8)}, nil, api.ErrArg)
		}
	}
}

// TestMakeLength: no barcode is longer than 52 bytes, whichever rows of bits its payload has.
func TestMakeLength(t *testing.T) {
	r := rand.New(rand.NewPCG(182, 183))
	kinds := []uint64{1 << 56, 1<<56 + 1, 1<<57 - 1, 1 << 63, 1<<63 + 1, math.MaxUint64 - 1, math.MaxUint64}
	longest := 0
	for range 5000 {
		p := api.Payload{Ticket: kinds[r.IntN(len(kinds))], Epoch: kinds[r.IntN(len(kinds))], Counter: kinds[r.IntN(len(kinds))], Tag: bytes.Repeat([]byte{byte(255 * r.IntN(2))}, 8)}
		b, err := Make(p)
		checkErr(t, err, 0, api.OK)
		longest = max(longest, len(b))
	}
	if longest < 51 || longest > 52 {
		t.Errorf("the longest barcode has %d bytes", longest)
	}
}

// P13.2

func TestReadExamples(t *testing.T) {
	r := rand.New(rand.NewPCG(184, 185))
	for _, x := range examples() {
		for places := range 6 {
			checkRead(t, spoil(r, x.b, places), x.p, places, 0, api.OK)
		}
	}
}

// TestReadOfNoBytes, and of others whose number may not be: what mending tells of them comes first, whatever they are.
func TestReadOfNoBytes(t *testing.T) {
	checkNone(t, nil, 1, api.ErrShort)
	b := examples()[0].b
	for n := range 10 {
		checkNone(t, make([]byte, n), 1, api.ErrShort)
		checkNone(t, bytes.Repeat([]byte{255}, n), 1, api.ErrShort)
		checkNone(t, b[:n], 1, api.ErrShort)
	}
	for _, n := range []int{256, 257, 300, 511, 512, 70000} {
		checkNone(t, make([]byte, n), 1, api.ErrLong)
		checkNone(t, append(make([]byte, n-len(b)), b...), 1, api.ErrLong)
		checkNone(t, append(slices.Clone(b), make([]byte, n-len(b))...), 1, api.ErrLong)
	}
}

// TestReadOfTooMany: bytes that no list which is fine is near to.
func TestReadOfTooMany(t *testing.T) {
	r := rand.New(rand.NewPCG(186, 187))
	many := 0
	for _, x := range examples() {
		for places := 6; places <= len(x.b); places++ {
			b := spoil(r, x.b, places)
			if _, _, e := mend.Mend(b, 10); e == api.ErrMany {
				many++
				checkNone(t, b, 1, api.ErrMany)
			}
		}
	}
	if many < 100 {
		t.Errorf("only %d were spoilt in too many places", many)
	}
	// Ahead of the checks they are nobody's stuffed ones, too, and nobody's payload.
	checkNone(t, []byte{0, 1, 2, 3, 4, 5, 6, 7, 8, 9, 10, 11, 12, 13, 14, 15}, 1, api.ErrMany)
	checkNone(t, bytes.Repeat([]byte{255, 0}, 127), 1, api.ErrMany)
}

// TestReadOfWhatIsNotStuffed: the checks fit, but what is ahead of them is nobody's stuffed bytes.
func TestReadOfWhatIsNotStuffed(t *testing.T) {
	r := rand.New(rand.NewPCG(188, 189))
	texts := [][]byte{{0}, {255}, {1}, {254}, {127}, {0, 0}, {87, 0}, {87, 1, 255}, {87, 1, 1, 1, 0}, make([]byte, 16), make([]byte, 245), bytes.Repeat([]byte{255}, 245)}
	for _, x := range examples() {
		// A barcode without one more byte at its end, and with a byte in it that none stuffed is.
		text := x.b[:len(x.b)-10]
		texts = append(texts, slices.Concat(text, []byte{0}), slices.Concat([]byte{255}, text), slices.Concat(text[:3], []byte{0}, text[4:]))
		// A payload's bytes that weren't stuffed.
		plain, _ := frame.Write(x.p)
		texts = append(texts, plain)
	}
	none := 0
	for _, text := range texts {
		if _, e := stuff.Get(text); e != api.ErrForm {
			continue
		}
		none++
		for places := range 6 {
			checkNone(t, spoil(r, withChecks(t, text), places), 2, api.ErrForm)
		}
	}
	if none < 40 {
		t.Errorf("only %d of %d texts are nobody's stuffed bytes", none, len(texts))
	}
}

// TestReadOfNoPayload: the checks fit, and what is ahead of them is stuffed, but nobody's payload.
func TestReadOfNoPayload(t *testing.T) {
	r := rand.New(rand.NewPCG(190, 191))
	whole, _ := frame.Write(examples()[0].p)
	for _, c := range []struct {
		b    []byte
		want api.Errno
	}{
		{nil, api.ErrShort}, {[]byte{87}, api.ErrShort}, {[]byte{87, 2, 0}, api.ErrShort}, {whole[:len(whole)-1], api.ErrShort},
		{[]byte{86}, api.ErrForm}, {[]byte{0}, api.ErrForm}, {[]byte{87, 1, 0}, api.ErrForm}, {append([]byte{86}, whole[1:]...), api.ErrForm}, {make([]byte, 200), api.ErrForm},
		{[]byte{87, 9}, api.ErrLong}, {slices.Concat(whole, []byte{0}), api.ErrLong}, {slices.Concat(whole, whole), api.ErrLong}, {slices.Concat(whole, make([]byte, 190)), api.ErrLong},
	} {
		for places := range 6 {
			checkNone(t, spoil(r, withChecks(t, stuff.Put(c.b)), places), 3, c.want)
		}
	}
	// Ten noughts are fine, and nothing is ahead of the checks; so are others that are mended to them.
	checkNone(t, make([]byte, 10), 3, api.ErrShort)
	checkNone(t, []byte{0, 9, 0, 9, 0, 9, 0, 9, 0, 9}, 3, api.ErrShort)
	checkNone(t, []byte{9, 9, 0, 9, 0, 9, 0, 9, 0, 9}, 1, api.ErrMany)
}

// TestReadAsTheChapterSays: bytes by chance, and barcodes that are cut, lengthened, shifted or spoilt in any number of places.
func TestReadAsTheChapterSays(t *testing.T) {
	r := rand.New(rand.NewPCG(192, 193))
	for n := range 300 {
		checkReadAlike(t, some(r, n))
		checkReadAlike(t, make([]byte, n))
		checkReadAlike(t, bytes.Repeat([]byte{255}, n))
	}
	for range 300 {
		b := otherMake(t, payload(r))
		k := r.IntN(len(b))
		checkReadAlike(t, b[:k])
		checkReadAlike(t, b[k:])
		checkReadAlike(t, slices.Concat(b, some(r, 1+r.IntN(3))))
		checkReadAlike(t, slices.Concat(b[k:], b[:k]))
		checkReadAlike(t, slices.Insert(slices.Clone(b), k, 0))
		checkReadAlike(t, spoil(r, b, r.IntN(len(b))))
		// The sum of two that are fine is so, too.
		c := otherMake(t, payload(r))
		for i := range min(len(b), len(c)) {
			c[i] ^= b[i]
		}
		checkReadAlike(t, c)
	}
}

// TestReadWithNoughtsAhead: they leave all fine, but aren't stuffed.
func TestReadWithNoughtsAhead(t *testing.T) {
	for _, x := range examples() {
		for n := 1; n+len(x.b) <= 255; n++ {
			b := append(make([]byte, n), x.b...)
			checkNone(t, b, 2, api.ErrForm)
		}
	}
}

// TestReadAsFarAsTheBytesGo: spare room behind them is not looked at.
func TestReadAsFarAsTheBytesGo(t *testing.T) {
	for _, x := range examples() {
		room := slices.Concat(x.b, x.b)
		checkRead(t, room[:len(x.b)], x.p, 0, 0, api.OK)
		for k := range 10 {
			checkNone(t, room[:k], 1, api.ErrShort)
		}
	}
}

// P13.3

// checkJust: if something is read, the bytes are mended to just its barcode.
func checkJust(t *testing.T, b []byte) bool {
	t.Helper()
	p, places, err := Read(b)
	if err != nil {
		return false
	}
	bar, err := Make(p)
	checkErr(t, err, 0, api.OK)
	mended, mendedPlaces, e := mend.Mend(b, 10)
	if e != api.OK || !bytes.Equal(bar, mended) || places != mendedPlaces || places != unlike(bar, b) || places > 5 {
		t.Fatalf("Read(%v) = %v, %d, whose barcode is %v, and mended it is %v, %d, %v", b, p, places, bar, mended, mendedPlaces, e)
	}
	return true
}

func TestBack(t *testing.T) {
	r := rand.New(rand.NewPCG(194, 195))
	l := payloads()
	for range 2000 {
		l = append(l, payload(r))
	}
	for _, p := range l {
		b, err := Make(p)
		checkErr(t, err, 0, api.OK)
		checkRead(t, b, p, 0, 0, api.OK)
		places := r.IntN(6)
		checkRead(t, spoil(r, b, places), p, places, 0, api.OK)
		checkJust(t, spoil(r, b, places))
	}
}

// TestBackFromEachPlace: one place may be spoilt to any byte, and each five places in a row.
func TestBackFromEachPlace(t *testing.T) {
	r := rand.New(rand.NewPCG(196, 197))
	x := examples()[0]
	for k := range x.b {
		for a := range 256 {
			b := slices.Clone(x.b)
			b[k] = byte(a)
			checkRead(t, b, x.p, unlike(x.b, b), 0, api.OK)
		}
		if k+5 <= len(x.b) {
			checkRead(t, spoilAt(r, x.b, []int{k, k + 1, k + 2, k + 3, k + 4}), x.p, 5, 0, api.OK)
		}
		for i := range k {
			checkRead(t, spoilAt(r, x.b, []int{i, k}), x.p, 2, 0, api.OK)
		}
	}
	for _, x := range examples() {
		// The ends of it: the first bytes, the last ahead of the checks, the first checks, and the last ones.
		n := len(x.b)
		for _, places := range [][]int{{0, 1, 2, 3, 4}, {n - 15, n - 14, n - 13, n - 12, n - 11}, {n - 10, n - 9, n - 8, n - 7, n - 6}, {n - 5, n - 4, n - 3, n - 2, n - 1}, {0, n - 11, n - 10, n - 1}} {
			checkRead(t, spoilAt(r, x.b, places), x.p, len(places), 0, api.OK)
		}
		for _, c := range []byte{0, 255} {
			b := slices.Clone(x.b)
			for k := range 5 {
				b[2*k+1] = c
			}
			checkRead(t, b, x.p, unlike(x.b, b), 0, api.OK)
		}
	}
}

// TestBackFromBetween: spoilt in six places or more, a barcode may be another's that is spoilt in just five: then that one is read.
func TestBackFromBetween(t *testing.T) {
	r := rand.New(rand.NewPCG(198, 199))
	p, b := examples()[0].p, examples()[0].b
	tried := 0
	for a := range 256 {
		q := p
		q.Tag = append(slices.Clone(p.Tag[:7]), byte(a))
		other := otherMake(t, q)
		if len(other) != len(b) || a == int(p.Tag[7]) {
			continue
		}
		near := slices.Clone(b)
		for unlike(near, other) > 5 {
			k := r.IntN(len(b))
			near[k] = other[k]
		}
		tried++
		checkRead(t, near, q, 5, 0, api.OK)
		checkJust(t, near)
	}
	if tried < 100 {
		t.Errorf("only %d others were tried", tried)
	}
}

func TestJust(t *testing.T) {
	r := rand.New(rand.NewPCG(200, 201))
	read := 0
	for range 3000 {
		p := payload(r)
		b := otherMake(t, p)
		if checkJust(t, spoil(r, b, r.IntN(9))) {
			read++
		}
		// Of few bytes, some by chance are near to ones that are fine.
		checkJust(t, some(r, 10+r.IntN(8)))
		// Bytes whose checks fit, and which are stuffed, or nearly so.
		text := b[:len(b)-10]
		if checkJust(t, withChecks(t, spoil(r, text, 1+r.IntN(2)))) {
			read++
		}
	}
	if read < 2000 {
		t.Errorf("only %d of what was spoilt are read", read)
	}
}

// TestUnlike: unlike payloads have unlike barcodes, in more than ten places, if they are of one length.
func TestUnlike(t *testing.T) {
	var l []example
	written := map[string]bool{}
	for _, p := range payloads() {
		plain, _ := frame.Write(p)
		if b, _ := Make(p); !written[string(plain)] {
			written[string(plain)] = true
			l = append(l, example{p, b})
		}
	}
	for i, x := range l {
		for _, y := range l[:i] {
			if bytes.Equal(x.b, y.b) || len(x.b) == len(y.b) && unlike(x.b, y.b) <= 10 {
				t.Errorf("%v and %v have the barcodes %v and %v", x.p, y.p, x.b, y.b)
			}
		}
	}
}

// The rules that hold everywhere.

func TestFaultsAreNewMemory(t *testing.T) {
	for _, call := range []func() error{
		func() error { _, err := Make(api.Payload{}); return err },
		func() error { _, _, err := Read(nil); return err },
		func() error { _, _, err := Read(append(make([]byte, 1), examples()[0].b...)); return err },
		func() error { _, _, err := Read(make([]byte, 10)); return err },
	} {
		var one, other *api.Fault
		if !errors.As(call(), &one) || !errors.As(call(), &other) {
			t.Fatal("no fault")
		}
		was := *other
		one.Step, one.Err = 77, api.ErrMost
		if *other != was {
			t.Errorf("two faults share memory: %v", other)
		}
	}
}

func TestAnswersAreNewMemory(t *testing.T) {
	bar := examples()[1].b
	spoilt := slices.Clone(bar)
	spoilt[10] ^= 1
	read := func(b []byte) []byte {
		p, _, _ := Read(b)
		return p.Tag
	}
	write := func(b []byte) []byte {
		answer, _ := Make(api.Payload{Ticket: 258, Epoch: 1, Tag: b})
		return answer
	}
	for _, call := range []func([]byte) []byte{read, write} {
		for _, text := range [][]byte{nil, []byte("abcdefgh"), []byte("abcdefg"), bar, spoilt, make([]byte, 10)} {
			rest := bytes.Repeat([]byte{111}, 70)
			room := slices.Concat(text, rest)
			answer, again := call(room[:len(text)]), call(room[:len(text)])
			want := slices.Clone(again)
			// All the room of an answer is written over: nothing else may be seen to change by it.
			answer = answer[:cap(answer)]
			for k := range answer {
				answer[k] ^= 255
			}
			if !bytes.Equal(room, slices.Concat(text, rest)) {
				t.Errorf("%v came back as %v, or shares memory with an answer", text, room)
			}
			if !bytes.Equal(again, want) {
				t.Errorf("two answers of %v share memory", text)
			}
		}
	}
}
