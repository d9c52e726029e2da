package slip_test

import (
	"bytes"
	"crypto/sha256"
	"encoding/binary"
	"encoding/hex"
	"math/rand/v2"
	"slices"
	"strings"
	"testing"

	"wristband/api"
	"wristband/slip"
)

// most bytes of a text, and how many a slip has beside them.
const (
	most   = 60000
	beside = 6
)

// some bytes by chance.
func some(r *rand.Rand, n int) []byte {
	b := make([]byte, n)
	for k := range b {
		b[k] = byte(r.Uint32())
	}
	return b
}

// unhex a text, blanks between whose words don't count.
func unhex(t *testing.T, s string) []byte {
	t.Helper()
	b, err := hex.DecodeString(strings.ReplaceAll(s, " ", ""))
	if err != nil {
		t.Fatal(err)
	}
	return b
}

// otherSlip of a text, by the library's hash, though the text may be one that has no slip.
func otherSlip(text []byte) []byte {
	b := binary.BigEndian.AppendUint16(nil, uint16(len(text)))
	b = append(b, text...)
	sum := sha256.Sum256(b)
	return append(b, sum[:4]...)
}

// otherRow goes from text to text: the one that the next two bytes tell of stands there, if its slip is just what comes.
func otherRow(b []byte) ([][]byte, int) {
	var l [][]byte
	at := 0
	for at+beside <= len(b) {
		n := int(binary.BigEndian.Uint16(b[at:]))
		if n > most || at+beside+n > len(b) {
			break
		}
		text := b[at+2 : at+2+n]
		if !bytes.Equal(otherSlip(text), b[at:at+beside+n]) {
			break
		}
		l = append(l, text)
		at += beside + n
	}
	return l, at
}

// rowOf texts: their slips, one behind the other.
func rowOf(texts ...[]byte) []byte {
	var b []byte
	for _, text := range texts {
		b = append(b, otherSlip(text)...)
	}
	return b
}

// list of texts.
func list(texts ...string) [][]byte {
	var l [][]byte
	for _, text := range texts {
		l = append(l, []byte(text))
	}
	return l
}

// same lists of texts, nil ones being empty ones?
func same(a, b [][]byte) bool { return slices.EqualFunc(a, b, bytes.Equal) }

// deep copy of texts.
func deep(l [][]byte) [][]byte {
	var out [][]byte
	for _, text := range l {
		out = append(out, slices.Clone(text))
	}
	return out
}

// checkPut of a text: its slip, or none.
func checkPut(t *testing.T, text, want []byte, wantE api.Errno) {
	t.Helper()
	was := slices.Clone(text)
	b, e := slip.Put(text)
	if !bytes.Equal(b, want) || e != wantE {
		t.Fatalf("Put of %d bytes, %.40q = %.40x, %v, want %.40x, %v", len(text), text, b, e, want, wantE)
	}
	if !bytes.Equal(text, was) {
		t.Fatalf("Put of %.40q left %.40q", was, text)
	}
}

// checkRow of bytes: these texts, whose slips have so many bytes; it is whole, if there are no more.
func checkRow(t *testing.T, b []byte, want [][]byte, wantN int) {
	t.Helper()
	was := slices.Clone(b)
	l, n := slip.Row(b)
	if !same(l, want) || n != wantN {
		t.Fatalf("Row of %d bytes, %.60x = %.60q, %d, want %.60q, %d", len(b), was, l, n, want, wantN)
	}
	if whole := slip.Whole(b); whole != (wantN == len(b)) {
		t.Fatalf("Whole of %d bytes, %.60x = %v", len(b), was, whole)
	}
	if !bytes.Equal(b, was) {
		t.Fatalf("%.60x became %.60x", was, b)
	}
}

// checkOther: a row is what another reading of the chapter says.
func checkOther(t *testing.T, b []byte) {
	t.Helper()
	l, n := otherRow(b)
	checkRow(t, b, l, n)
}

// lists of texts: none, empty ones, alike ones, short and long ones, and some that are slips or a row themselves.
func lists() [][][]byte {
	r := rand.New(rand.NewPCG(1800, 1801))
	l := [][][]byte{
		nil, list(""), list("", ""), list("", "a", ""), list("a"), list("abc", "abc"), list("ab", "c", "abc", ""),
		{rowOf(nil)}, {rowOf(nil), rowOf([]byte("abc"))}, {rowOf([]byte("a"), nil, []byte("bc")), []byte("d")},
		{make([]byte, 300), {0}, {0, 0}, make([]byte, 6)}, {bytes.Repeat([]byte{255}, 70), {255, 255}},
		{[]byte("a"), some(r, 255), some(r, 256), some(r, 257), []byte("z")},
	}
	for n := range 20 {
		var texts [][]byte
		for range n {
			texts = append(texts, some(r, r.IntN(130)))
		}
		l = append(l, texts)
	}
	return l
}

// P18.1

func TestPutExamples(t *testing.T) {
	for _, x := range []struct {
		text []byte
		head string
		sum  string
	}{
		// Sums reckoned elsewhere.
		{nil, "0000", "96a296d2"},
		{[]byte{}, "0000", "96a296d2"},
		{[]byte("abc"), "0003", "757f0dea"},
		{[]byte{0}, "0001", "faee9357"},
		{make([]byte, 258), "0102", "4a82c10e"},
		{make([]byte, 60000), "ea60", "09d929e5"},
	} {
		want := slices.Concat(unhex(t, x.head), x.text, unhex(t, x.sum))
		checkPut(t, x.text, want, api.OK)
	}
	if b, e := slip.Put(nil); len(b) != 6 || e != api.OK {
		t.Errorf("an empty text's slip is %x, %v", b, e)
	}
}

func TestPutOfEachLength(t *testing.T) {
	r := rand.New(rand.NewPCG(1802, 1803))
	for n := range 700 {
		text := some(r, n)
		checkPut(t, text, otherSlip(text), api.OK)
	}
	for _, n := range []int{4095, 4096, 8192, 32767, 32768, 59999, 60000} {
		text := some(r, n)
		checkPut(t, text, otherSlip(text), api.OK)
	}
}

// TestPutOfTooLong ones: above the limit, and where two bytes tell no more how many there are.
func TestPutOfTooLong(t *testing.T) {
	r := rand.New(rand.NewPCG(1804, 1805))
	for _, n := range []int{60001, 60002, 65529, 65530, 65534, 65535, 65536, 65537, 65539, 1 << 17, 65536 + 60000, 65536 + 60001, 1 << 20} {
		checkPut(t, some(r, n), nil, api.ErrLong)
	}
}

// TestPutOfEachByte, alone and between others.
func TestPutOfEachByte(t *testing.T) {
	for c := range 256 {
		for _, text := range [][]byte{{byte(c)}, {byte(c), 0}, {7, byte(c), 9}, bytes.Repeat([]byte{byte(c)}, c)} {
			checkPut(t, text, otherSlip(text), api.OK)
		}
	}
}

func TestRowExamples(t *testing.T) {
	checkRow(t, nil, nil, 0)
	checkRow(t, []byte{}, nil, 0)
	empty := unhex(t, "0000 96a296d2")
	abc := unhex(t, "0003 616263 757f0dea")
	checkRow(t, empty, list(""), 6)
	checkRow(t, abc, list("abc"), 9)
	checkRow(t, slices.Concat(empty, abc), list("", "abc"), 15)
	checkRow(t, slices.Concat(abc, empty, empty, abc), list("abc", "", "", "abc"), 30)
	checkRow(t, slices.Concat(abc, []byte("behind")), list("abc"), 9)
	checkRow(t, slices.Concat([]byte("ahead"), abc), nil, 0)
	// What is wrong hides what is behind it, though a slip stands there.
	checkRow(t, slices.Concat(abc, []byte{0}, abc), list("abc"), 9)
	checkRow(t, slices.Concat(abc, abc[:8], abc), list("abc"), 9)
}

func TestRow(t *testing.T) {
	for _, l := range lists() {
		b := rowOf(l...)
		checkRow(t, b, l, len(b))
	}
}

// TestRowOfLongTexts: at the limit, and one more, which has a sum that fits, but is no slip's.
func TestRowOfLongTexts(t *testing.T) {
	r := rand.New(rand.NewPCG(1806, 1807))
	short := []byte("abc")
	for _, n := range []int{8192, 32768, 59999, 60000} {
		long := some(r, n)
		checkRow(t, rowOf(long), [][]byte{long}, n+6)
		checkRow(t, rowOf(short, long, short), [][]byte{short, long, short}, 9+n+6+9)
	}
	for _, n := range []int{60001, 60002, 61000, 65534, 65535} {
		long := some(r, n)
		checkRow(t, rowOf(long), nil, 0)
		checkRow(t, rowOf(short, long, short), [][]byte{short}, 9)
		checkRow(t, rowOf(long, short), nil, 0)
	}
}

// TestRowOfTooFewBytes: a head that tells of more than there are.
func TestRowOfTooFewBytes(t *testing.T) {
	for n := range 8 {
		b := bytes.Repeat([]byte{255}, n)
		checkRow(t, b, nil, 0)
		checkRow(t, append(rowOf([]byte("a")), b...), list("a"), 7)
	}
	for _, head := range [][]byte{{0, 0}, {0, 1}, {0, 255}, {1, 0}, {234, 96}, {234, 97}, {255, 255}} {
		for n := range 12 {
			checkOther(t, slices.Concat(head, make([]byte, n)))
			checkOther(t, slices.Concat(rowOf([]byte("a")), head, make([]byte, n)))
		}
	}
}

// TestNothingShortIsARow: fewer than six bytes hold no slip.
func TestNothingShortIsARow(t *testing.T) {
	for x := range 1 << 16 {
		checkRow(t, []byte{byte(x >> 8), byte(x)}, nil, 0)
	}
	r := rand.New(rand.NewPCG(1808, 1809))
	for range 20000 {
		checkRow(t, some(r, 1+r.IntN(5)), nil, 0)
	}
	for n := 1; n < 6; n++ {
		checkRow(t, rowOf(nil)[:n], nil, 0)
		checkRow(t, make([]byte, n), nil, 0)
	}
}

// TestRowOfManyTexts fills an area of a disk.
func TestRowOfManyTexts(t *testing.T) {
	for _, text := range list("", "abcdefghij", strings.Repeat("long ", 12000)) {
		many := (1 << 20) / (len(text) + beside)
		l := slices.Repeat([][]byte{text}, many)
		b := rowOf(l...)
		checkRow(t, b, l, len(b))
		checkRow(t, b[:len(b)-1], l[1:], len(b)-len(text)-beside)
	}
}

// P18.2

// TestWhatIsPutIsARow of its texts.
func TestWhatIsPutIsARow(t *testing.T) {
	for _, l := range lists() {
		var b []byte
		for _, text := range l {
			one, e := slip.Put(text)
			if e != api.OK {
				t.Fatalf("Put(%q) = %v", text, e)
			}
			checkRow(t, one, [][]byte{text}, len(text)+6)
			b = append(b, one...)
		}
		checkRow(t, b, l, len(b))
	}
}

// TestWhatIsPutAtEachLength comes as it was, alone and twice.
func TestWhatIsPutAtEachLength(t *testing.T) {
	r := rand.New(rand.NewPCG(1810, 1811))
	for n := range 600 {
		text := some(r, n)
		b, _ := slip.Put(text)
		checkRow(t, b, [][]byte{text}, n+6)
		b = append(b, b...)
		checkRow(t, b, [][]byte{text, text}, 2*(n+6))
	}
}

// TestCutAnywhere: the slips that are whole are left, the cut one is none; what is behind the cut isn't looked at, though it is there.
func TestCutAnywhere(t *testing.T) {
	for _, l := range lists() {
		b := rowOf(l...)
		whole, n := 0, 0
		for cut := range len(b) + 1 {
			if whole < len(l) && n+len(l[whole])+beside == cut {
				whole, n = whole+1, cut
			}
			checkRow(t, b[:cut], l[:whole], n)
		}
		if whole != len(l) {
			t.Fatalf("%d texts of %d were whole in the end", whole, len(l))
		}
	}
}

// noSlips are some bytes with which no slip begins, also if others are behind them.
func noSlips() [][]byte {
	r := rand.New(rand.NewPCG(1812, 1813))
	abc := otherSlip([]byte("abc"))
	spoilt := slices.Clone(abc)
	spoilt[8] ^= 1
	return [][]byte{
		nil, {0}, {0, 0}, {0, 0, 0, 0, 0, 0}, make([]byte, 100), bytes.Repeat([]byte{255}, 8), bytes.Repeat([]byte{255}, 70000),
		[]byte("behind"), abc[1:], slices.Concat(spoilt, abc), slices.Concat([]byte{0}, abc), slices.Concat(abc[:5], abc),
		otherSlip(make([]byte, 60001)), slices.Concat(otherSlip(some(r, 65535)), abc), some(r, 40), some(r, 300),
		// The hash of the text alone, of its length alone, and another part of the hash, aren't the sum.
		slices.Concat([]byte{0, 3}, []byte("abc"), unhexed("ba7816bf")), slices.Concat([]byte{0, 3}, []byte("abc"), unhexed("9aa0c1f8")),
		slices.Concat([]byte{0, 3}, []byte("abc"), unhexed("ea0d7f75")), slices.Concat([]byte{3, 0}, []byte("abc"), abc[5:]),
	}
}

// unhexed text that is a fine one.
func unhexed(s string) []byte {
	b, _ := hex.DecodeString(s)
	return b
}

// TestWhateverIsBehind: of slips behind which is no slip, the texts are the same.
func TestWhateverIsBehind(t *testing.T) {
	for _, l := range lists() {
		row := rowOf(l...)
		for _, rest := range noSlips() {
			checkRow(t, slices.Concat(row, rest), l, len(row))
		}
	}
}

// TestTurnedAnywhere: a slip one of whose bits is turned is none, so that the row ends ahead of it.
func TestTurnedAnywhere(t *testing.T) {
	for _, l := range lists() {
		b := rowOf(l...)
		at := 0
		for k, text := range l {
			end := at + len(text) + beside
			for i := at; i < end; i++ {
				turned := slices.Clone(b)
				turned[i] ^= 1 << ((i + k) % 8)
				checkRow(t, turned, l[:k], at)
			}
			at = end
		}
	}
}

// TestEachByteToAnother in a short row: each place to each other byte.
func TestEachByteToAnother(t *testing.T) {
	l := list("ab", "", "c")
	b := rowOf(l...)
	for i := range b {
		want, n := l[:0], 0
		switch {
		case i >= 14:
			want, n = l[:2], 14
		case i >= 8:
			want, n = l[:1], 8
		}
		for c := 1; c < 256; c++ {
			other := slices.Clone(b)
			other[i] ^= byte(c)
			checkRow(t, other, want, n)
		}
	}
}

// TestPiecesByChance: slips, beginnings and ends of slips, spoilt ones, too long ones and any bytes, in any order.
func TestPiecesByChance(t *testing.T) {
	r := rand.New(rand.NewPCG(1814, 1815))
	// How many are whole, or not; and how many have no text, one, or more.
	kinds := make([]int, 5)
	for range 4000 {
		var b []byte
		for range r.IntN(6) {
			b = append(b, piece(r)...)
		}
		checkOther(t, b)
		l, n := otherRow(b)
		kinds[min(len(b)-n, 1)]++
		kinds[2+min(len(l), 2)]++
	}
	if slices.Min(kinds) < 100 {
		t.Errorf("rows of each kind should come up often, but there are %v", kinds)
	}
}

// piece of a row, by chance: mostly a slip.
func piece(r *rand.Rand) []byte {
	b := otherSlip(some(r, r.IntN(80)))
	switch r.IntN(12) {
	case 0:
		return b[:r.IntN(len(b))]
	case 1:
		return b[r.IntN(len(b)):]
	case 2:
		b[r.IntN(len(b))] ^= 1 << r.IntN(8)
	case 3:
		return some(r, r.IntN(30))
	case 4:
		if r.IntN(10) == 0 {
			return otherSlip(some(r, 59998+r.IntN(5)))
		}
	}
	return b
}

// TestUnlikeTextsHaveUnlikeSlips: none of short texts has another one's, nor a beginning of it.
func TestUnlikeTextsHaveUnlikeSlips(t *testing.T) {
	var all [][]byte
	for c := range 256 {
		for _, text := range [][]byte{{byte(c)}, {byte(c), 0}, {0, byte(c), 0}} {
			b, _ := slip.Put(text)
			all = append(all, b)
		}
	}
	empty, _ := slip.Put(nil)
	all = append(all, empty)
	for i, a := range all {
		for k, b := range all {
			if i != k && bytes.HasPrefix(a, b) {
				t.Errorf("%x begins with another text's slip %x", a, b)
			}
		}
	}
}

// The rules that hold everywhere.

// spoilBytes in all their room.
func spoilBytes(b []byte) {
	b = b[:cap(b)]
	for k := range b {
		b[k] ^= 85
	}
}

// spoil texts, and their list, in all their room.
func spoil(l [][]byte) {
	l = l[:cap(l)]
	for k := range l {
		spoilBytes(l[k])
		l[k] = []byte("spoilt")
	}
}

// roomy bytes: those asked for, and behind them, in their spare room, a slip.
func roomy(b []byte) (part, whole []byte) {
	whole = slices.Concat(b, otherSlip([]byte("spare")))
	return whole[:len(b)], whole
}

func TestPutIsNewMemory(t *testing.T) {
	long := make([]byte, most+1)
	for _, text := range append(list("", "a", "abc", strings.Repeat("text", 100)), long[:most], long) {
		want, _ := slip.Put(text)
		want = slices.Clone(want)
		part, whole := roomy(text)
		was := slices.Clone(whole)
		got, _ := slip.Put(part)
		spoilBytes(got)
		if !bytes.Equal(whole, was) {
			t.Errorf("Put of %d bytes shares what was handed in", len(text))
		}
		got, _ = slip.Put(part)
		spoilBytes(whole)
		if !bytes.Equal(got, want) {
			t.Errorf("Put of %d bytes keeps what was handed in", len(text))
		}
	}
}

func TestRowIsNewMemory(t *testing.T) {
	for _, l := range lists() {
		row := rowOf(l...)
		for _, rest := range [][]byte{nil, []byte("behind"), otherSlip([]byte("abc"))[:8]} {
			part, whole := roomy(slices.Concat(row, rest))
			was := slices.Clone(whole)
			got, _ := slip.Row(part)
			spoil(got)
			if !bytes.Equal(whole, was) {
				t.Fatalf("Row(%x) shares what was handed in: %x", part, whole)
			}
			got, _ = slip.Row(part)
			slip.Whole(part)
			spoilBytes(whole)
			if !same(got, l) {
				t.Fatalf("Row(%x) keeps what was handed in: %q", was, got)
			}
		}
	}
}

// TestNothingIsPutBehindAText: it has no spare room, so that what is put behind it stands elsewhere than in what is next.
func TestNothingIsPutBehindAText(t *testing.T) {
	for _, l := range lists() {
		part, whole := roomy(rowOf(l...))
		was := slices.Clone(whole)
		got, _ := slip.Row(part)
		for k, text := range got {
			if cap(text) != len(text) {
				t.Errorf("text %d of %d bytes has room for %d", k, len(text), cap(text))
			}
			_ = append(text, "put behind it"...)
		}
		if !same(got, l) || !bytes.Equal(whole, was) {
			t.Errorf("what was put behind texts changed them to %q, and %x to %x", got, was, whole)
		}
	}
}

// TestTextsShareNothing: each may be changed, and the others stay.
func TestTextsShareNothing(t *testing.T) {
	for _, l := range lists() {
		b := rowOf(l...)
		for k := range l {
			got, _ := slip.Row(b)
			want := deep(l)
			spoilBytes(got[k])
			spoilBytes(want[k])
			if !same(got, want) {
				t.Fatalf("as text %d was changed, others were, too: %q, want %q", k, got, want)
			}
		}
	}
}

// TestAlikeEachTime: an answer hangs on nothing that was asked for ahead of it.
func TestAlikeEachTime(t *testing.T) {
	for range 3 {
		for _, l := range lists() {
			b := rowOf(l...)
			checkRow(t, b, l, len(b))
			checkRow(t, append(b, 9), l, len(b))
			for _, text := range l {
				checkPut(t, text, otherSlip(text), api.OK)
			}
		}
	}
}
