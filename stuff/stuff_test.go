package stuff

import (
	"bytes"
	"math"
	"math/rand/v2"
	"slices"
	"strconv"
	"strings"
	"testing"

	"wristband/api"
)

// some bytes by chance.
func some(r *rand.Rand, n int) []byte {
	b := make([]byte, n)
	for k := range b {
		b[k] = byte(r.Uint32())
	}
	return b
}

// rows of bits that are alike, of chance lengths, as bytes.
func rows(r *rand.Rand, n int) []byte {
	var bits strings.Builder
	for kind := r.IntN(2); bits.Len() < 8*n; kind = 1 - kind {
		bits.WriteString(strings.Repeat(strconv.Itoa(kind), 1+r.IntN(24)))
	}
	return bytesOf(bits.String()[:8*n])
}

// bitsOf bytes, written out, the highest of each first.
func bitsOf(b []byte) string {
	var bits strings.Builder
	for _, c := range b {
		bits.WriteString(strconv.FormatUint(256|uint64(c), 2)[1:])
	}
	return bits.String()
}

// bytesOf bits that are written out; those behind the last whole byte are left away.
func bytesOf(bits string) []byte {
	b := []byte{}
	for ; len(bits) >= 8; bits = bits[8:] {
		c, _ := strconv.ParseUint(bits[:8], 2, 8)
		b = append(b, byte(c))
	}
	return b
}

// otherPut goes the chapter's way word by word, with bits that are written out.
func otherPut(b []byte) []byte {
	groups := ""
	for bits := bitsOf(b); bits != ""; {
		if len(bits) < 7 {
			bits += strings.Repeat("1", 7-len(bits))
		}
		switch seven := bits[:7]; {
		case seven == "0000000":
			groups, bits = groups+seven+"1", bits[7:]
		case seven == "1111111":
			groups, bits = groups+seven+"0", bits[7:]
		case len(bits) == 7:
			groups, bits = groups+seven+"1", ""
		default:
			groups, bits = groups+bits[:8], bits[8:]
		}
	}
	return bytesOf(groups)
}

// otherGet takes the groups' bits, and holds all lengths of bytes that they may begin with against what was stuffed.
func otherGet(s []byte) ([]byte, api.Errno) {
	bits := ""
	for _, c := range s {
		group := bitsOf([]byte{c})
		if group[:7] == "0000000" || group[:7] == "1111111" {
			group = group[:7]
		}
		bits += group
	}
	all := bytesOf(bits)
	for n := range len(all) + 1 {
		if bytes.Equal(otherPut(all[:n]), s) {
			return all[:n], api.OK
		}
	}
	return nil, api.ErrForm
}

// edges: bytes of few rows of bits that are alike.
func edges() []byte {
	return []byte{0, 1, 2, 3, 7, 15, 31, 63, 64, 95, 126, 127, 128, 129, 191, 192, 224, 252, 253, 254, 255}
}

// checkPut: what Put answers, and that what is handed in stays.
func checkPut(t *testing.T, b, want []byte) {
	t.Helper()
	was := slices.Clone(b)
	if got := Put(b); !bytes.Equal(got, want) {
		t.Errorf("Put(%v) = %v, want %v", was, got, want)
	}
	if !bytes.Equal(b, was) {
		t.Errorf("Put(%v) left %v", was, b)
	}
}

// checkGet: what Get answers, and that what is handed in stays.
func checkGet(t *testing.T, s, want []byte, wantE api.Errno) {
	t.Helper()
	was := slices.Clone(s)
	if got, e := Get(s); !bytes.Equal(got, want) || e != wantE {
		t.Errorf("Get(%v) = %v, %v, want %v, %v", was, got, e, want, wantE)
	}
	if !bytes.Equal(s, was) {
		t.Errorf("Get(%v) left %v", was, s)
	}
}

// P11.1

// examples of bytes and their stuffed ones.
func examples() [][2][]byte {
	return [][2][]byte{
		{nil, nil},
		{{}, {}},
		// Eight bits that are not alike are a group as they are, and nothing is left.
		{{128}, {128}}, {{2}, {2}}, {{3}, {3}}, {{64}, {64}}, {{85}, {85}}, {{127}, {127}}, {{252}, {252}}, {{253}, {253}}, {{128, 127}, {128, 127}}, {[]byte("wristband"), []byte("wristband")},
		// One bit is left, and six bits 1 come behind it, and a seventh, if it is a 0.
		{{0}, {1, 127}}, {{1}, {1, 254}}, {{254}, {254, 127}}, {{255}, {254, 254}},
		// Two bits are left, and more.
		{{0, 0}, {1, 1, 63}}, {{0, 1}, {1, 1, 127}}, {{1, 1}, {1, 128, 254}}, {{0, 255}, {1, 127, 254}}, {{0, 2}, {1, 1, 191}}, {{0, 3}, {1, 1, 254}}, {{255, 255}, {254, 254, 254}}, {{255, 252}, {254, 254, 63}},
		{{0, 0, 0}, {1, 1, 1, 31}}, {{0, 0, 0, 0}, {1, 1, 1, 1, 15}}, {{0, 0, 0, 0, 0}, {1, 1, 1, 1, 1, 7}}, {{0, 0, 0, 0, 0, 0}, {1, 1, 1, 1, 1, 1, 3}},
		{{0, 0, 0, 7}, {1, 1, 1, 1, 127}}, {{0, 0, 0, 15}, {1, 1, 1, 1, 254}}, {{0, 0, 0, 0, 0, 63}, {1, 1, 1, 1, 1, 1, 254}},
		// Just seven are left: all 0, all 1, or not alike.
		{{0, 0, 0, 0, 0, 0, 0}, {1, 1, 1, 1, 1, 1, 1, 1}}, {{0, 0, 0, 0, 0, 0, 127}, {1, 1, 1, 1, 1, 1, 1, 254}},
		{{0, 0, 0, 0, 0, 0, 1}, {1, 1, 1, 1, 1, 1, 1, 3}}, {{0, 0, 0, 0, 0, 0, 126}, {1, 1, 1, 1, 1, 1, 1, 253}}, {{0, 0, 0, 0, 0, 0, 64}, {1, 1, 1, 1, 1, 1, 1, 129}},
		{{255, 255, 255, 255, 255, 255, 255}, {254, 254, 254, 254, 254, 254, 254, 254}}, {{255, 255, 255, 255, 255, 255, 128}, {254, 254, 254, 254, 254, 254, 254, 1}},
		// As many groups of seven bits as make the bytes even again.
		{{0, 0, 0, 0, 0, 0, 0, 85}, {1, 1, 1, 1, 1, 1, 1, 1, 85}},
	}
}

func TestPutExamples(t *testing.T) {
	for _, c := range examples() {
		checkPut(t, c[0], c[1])
	}
}

func TestGetExamples(t *testing.T) {
	for _, c := range examples() {
		checkGet(t, c[1], c[0], api.OK)
	}
}

func TestGetOfWhatIsNone(t *testing.T) {
	for _, s := range [][]byte{
		// No group is all 0 or all 1.
		{0}, {255}, {0, 127}, {255, 254}, {1, 0}, {1, 255}, {128, 0}, {128, 255}, {0, 128}, {255, 128},
		// There are too few bits, or only such as come behind others.
		{1}, {254}, {128, 1}, {128, 254},
		// Behind the one bit that is left, six bits 1 are due, and a seventh one.
		{1, 126}, {1, 125}, {1, 111}, {1, 95}, {1, 63}, {1, 191}, {1, 1}, {254, 1}, {254, 126}, {254, 2},
		// Behind two bits, five bits 1 are due, and a sixth one.
		{1, 1, 62}, {1, 1, 31}, {1, 1, 95}, {1, 1, 126}, {1, 1, 1}, {1, 1, 189},
		// Behind seven that are not alike, one bit 1 is due; seven that are alike have it already, and none of their own behind it.
		{1, 1, 1, 1, 1, 1, 1, 2}, {1, 1, 1, 1, 1, 1, 1, 252}, {1, 1, 1, 1, 1, 1, 1, 128}, {1, 1, 1, 1, 1, 1, 1}, {1, 1, 1, 1, 1, 1, 1, 0}, {1, 1, 1, 1, 1, 1, 1, 255},
		// A group too many, of bits 1 alone, behind bytes that are complete.
		{85, 254}, {128, 127, 254}, {1, 1, 1, 1, 1, 1, 1, 1, 254}, {1, 1, 1, 1, 1, 1, 1, 254, 254}, {1, 1, 1, 1, 1, 1, 1, 1, 127, 254},
	} {
		checkGet(t, s, nil, api.ErrForm)
	}
}

// TestAllOfTwo: all bytes up to two, all there may be as their stuffed ones, up to two.
func TestAllOfTwo(t *testing.T) {
	was := map[string][]byte{}
	put := func(b []byte) {
		checkPut(t, b, otherPut(b))
		was[string(otherPut(b))] = b
	}
	get := func(s []byte) {
		if b, ok := was[string(s)]; ok {
			checkGet(t, s, b, api.OK)
		} else {
			checkGet(t, s, nil, api.ErrForm)
		}
	}
	for _, do := range []func([]byte){put, get} {
		do(nil)
		for c := range 256 {
			do([]byte{byte(c)})
		}
		for d := range 1 << 16 {
			do([]byte{byte(d >> 8), byte(d)})
		}
	}
}

// TestLastGroups: behind each number of groups of seven bits, any byte and one that lies at an edge.
func TestLastGroups(t *testing.T) {
	for n := range 16 {
		for c := range 256 {
			for _, last := range edges() {
				s := slices.Concat(bytes.Repeat([]byte{1}, n), []byte{byte(c), last})
				want, wantE := otherGet(s)
				checkGet(t, s, want, wantE)
			}
		}
	}
}

func TestPutAsTheChapterSays(t *testing.T) {
	r := rand.New(rand.NewPCG(150, 151))
	for n := range 120 {
		for _, c := range []byte{0, 255, 1, 254, 127, 128} {
			b := bytes.Repeat([]byte{c}, n)
			checkPut(t, b, otherPut(b))
		}
		for range 20 {
			for _, b := range [][]byte{some(r, n), rows(r, n)} {
				checkPut(t, b, otherPut(b))
			}
		}
	}
}

func TestGetAsTheChapterSays(t *testing.T) {
	r := rand.New(rand.NewPCG(152, 153))
	for n := range 30 {
		for range 100 {
			s := some(r, n)
			for k := range s {
				if r.IntN(2) == 0 {
					s[k] = edges()[r.IntN(len(edges()))]
				}
			}
			want, wantE := otherGet(s)
			checkGet(t, s, want, wantE)
		}
	}
}

// TestGetOfWhatWasChanged: one bit turned anywhere, bytes cut off or put behind, a byte that never is.
func TestGetOfWhatWasChanged(t *testing.T) {
	r := rand.New(rand.NewPCG(154, 155))
	check := func(s []byte) {
		t.Helper()
		want, wantE := otherGet(s)
		checkGet(t, s, want, wantE)
	}
	for n := 1; n <= 17; n++ {
		for _, b := range [][]byte{some(r, n), rows(r, n), rows(r, n), make([]byte, n), bytes.Repeat([]byte{255}, n)} {
			s := Put(b)
			for k := range s {
				check(s[:k])
				for bit := range 8 {
					turned := slices.Clone(s)
					turned[k] ^= 1 << bit
					check(turned)
				}
				for _, never := range []byte{0, 255} {
					wrong := slices.Clone(s)
					wrong[k] = never
					checkGet(t, wrong, nil, api.ErrForm)
				}
			}
			for c := range 256 {
				check(slices.Concat(s, []byte{byte(c)}))
			}
		}
	}
}

// P11.2

func TestMost(t *testing.T) {
	for n, want := range map[int]int{
		0: 0, 1: 2, 2: 3, 3: 4, 4: 5, 5: 6, 6: 7, 7: 8, 8: 10, 13: 15, 14: 16, 15: 18, 223: 255, 224: 256, 1 << 10: 1171,
		1<<20 - 2: 1198371, 1<<20 - 1: 1198372, 1 << 20: 1198373,
		1<<20 + 1: 0, 1<<20 + 2: 0, 1 << 21: 0, 1 << 31: 0, 1 << 32: 0, 1<<32 + 1: 0, 1 << 60: 0, 1 << 61: 0, math.MaxInt: 0, math.MaxInt - 1: 0,
		-1: 0, -2: 0, -7: 0, -8: 0, -1 << 20: 0, -1 << 31: 0, -1 << 61: 0, math.MinInt + 1: 0, math.MinInt: 0,
	} {
		if Most(n) != want {
			t.Errorf("Most(%d) = %d, want %d", n, Most(n), want)
		}
	}
	for n := range 1<<20 + 1 {
		want := 8 * n / 7
		if 8*n%7 != 0 {
			want++
		}
		if Most(n) != want {
			t.Fatalf("Most(%d) = %d, want %d", n, Most(n), want)
		}
	}
}

// TestMostIsMost: so many have noughts, and no bytes have more.
func TestMostIsMost(t *testing.T) {
	r := rand.New(rand.NewPCG(156, 157))
	for n := range 300 {
		for _, b := range [][]byte{make([]byte, n), bytes.Repeat([]byte{255}, n)} {
			if got := len(Put(b)); got != Most(n) {
				t.Errorf("%d bytes, all alike, have %d stuffed ones, want %d", n, got, Most(n))
			}
		}
		for range 20 {
			for _, b := range [][]byte{some(r, n), rows(r, n)} {
				if got := len(Put(b)); got > Most(n) || got < n {
					t.Errorf("%v have %d stuffed ones, want from %d to %d", b, got, n, Most(n))
				}
			}
		}
	}
	if got := len(Put(make([]byte, 1<<20))); got != Most(1<<20) {
		t.Errorf("2^20 noughts have %d stuffed bytes, want %d", got, Most(1<<20))
	}
}

// P11.3

// checkBack: bytes are read as they were, and no stuffed one is 0 or 255.
func checkBack(t *testing.T, b []byte) {
	t.Helper()
	s := Put(b)
	if bytes.IndexByte(s, 0) >= 0 || bytes.IndexByte(s, 255) >= 0 {
		t.Errorf("Put(%v) = %v", b, s)
	}
	checkGet(t, s, b, api.OK)
}

func TestBack(t *testing.T) {
	r := rand.New(rand.NewPCG(158, 159))
	for n := range 300 {
		for _, c := range []byte{0, 255, 1, 254, 127, 128, 85} {
			checkBack(t, bytes.Repeat([]byte{c}, n))
		}
		for range 20 {
			checkBack(t, some(r, n))
			checkBack(t, rows(r, n))
		}
	}
	checkBack(t, []byte("wristband"))
}

// TestBackOfMany bytes: more than Most counts for, too.
func TestBackOfMany(t *testing.T) {
	r := rand.New(rand.NewPCG(160, 161))
	for _, n := range []int{8191, 1 << 20, 1<<20 + 1, 1<<22 + 3} {
		for _, b := range [][]byte{make([]byte, n), some(r, n)} {
			s := Put(b)
			if got, e := Get(s); e != api.OK || !bytes.Equal(got, b) {
				t.Errorf("%d bytes came back as %d, %v", n, len(got), e)
			}
			s[len(s)/2] = 255
			if got, e := Get(s); e != api.ErrForm || got != nil {
				t.Errorf("%d bytes, one of them 255, came back as %d, %v", len(s), len(got), e)
			}
		}
	}
}

// TestUnlike: no two have the same stuffed ones, of all bytes up to two, and of noughts and ones of any length.
func TestUnlike(t *testing.T) {
	was := map[string]string{}
	check := func(b []byte) {
		t.Helper()
		s := string(Put(b))
		if elder, ok := was[s]; ok && elder != string(b) {
			t.Errorf("Put(%v) and Put(%v) are both %v", []byte(elder), b, []byte(s))
		}
		was[s] = string(b)
	}
	check(nil)
	for c := range 256 {
		check([]byte{byte(c)})
	}
	for d := range 1 << 16 {
		check([]byte{byte(d >> 8), byte(d)})
	}
	for n := range 40 {
		for _, c := range []byte{0, 255} {
			alike := bytes.Repeat([]byte{c}, n)
			check(alike)
			for k := range 8 * n {
				turned := slices.Clone(alike)
				turned[k/8] ^= 1 << (k % 8)
				check(turned)
			}
		}
	}
}

// The rules that hold everywhere.

func TestNoneBesideAnError(t *testing.T) {
	for _, s := range [][]byte{{0}, {255}, {1}, {85, 85, 0}, {85, 85, 254}, {1, 126}} {
		if b, e := Get(s); b != nil || e != api.ErrForm {
			t.Errorf("Get(%v) = %v, %v", s, b, e)
		}
	}
}

func TestAnswersAreNewMemory(t *testing.T) {
	get := func(s []byte) []byte {
		b, _ := Get(s)
		return b
	}
	for _, call := range []func([]byte) []byte{Put, get} {
		for _, text := range [][]byte{nil, {85}, {0}, {1, 127}, {254, 254}, []byte("wristband"), {85, 0}, bytes.Repeat([]byte{1}, 64), make([]byte, 64)} {
			rest := bytes.Repeat([]byte{111}, 70)
			room := slices.Concat(text, rest)
			answer, again := call(room[:len(text)]), call(room[:len(text)])
			want := slices.Clone(again)
			// All the room of an answer is written over: nothing else may be seen to change by it.
			answer = answer[:cap(answer)]
			for k := range answer {
				answer[k] ^= 255
			}
			if !bytes.Equal(room, slices.Concat(text, rest)) {
				t.Errorf("%v came back as %v, or shares memory with an answer", text, room)
			}
			if !bytes.Equal(again, want) {
				t.Errorf("two answers of %v share memory", text)
			}
		}
	}
}
