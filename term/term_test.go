package term

import (
	"bytes"
	"math"
	"math/rand/v2"
	"slices"
	"strings"
	"testing"

	"wristband/api"
	"wristband/word"
)

// of is a term of two texts.
func of(key, msg string) api.Term {
	return api.Term{Key: []byte(key), Msg: []byte(msg)}
}

// terms of keys and texts, in turn.
func terms(texts ...string) []api.Term {
	l := []api.Term{}
	for i := 0; i < len(texts); i += 2 {
		l = append(l, of(texts[i], texts[i+1]))
	}
	return l
}

// many terms, each unlike all others, of all places below n.
func many(n int) []api.Term {
	l := make([]api.Term, n)
	for i := range l {
		l[i] = api.Term{Key: []byte("key"), Msg: word.Least(uint64(i))}
	}
	return l
}

// same terms, a text that is nil being an empty one?
func same(a, b api.Term) bool {
	return bytes.Equal(a.Key, b.Key) && bytes.Equal(a.Msg, b.Msg)
}

// deep copy of terms.
func deep(l []api.Term) []api.Term {
	out := make([]api.Term, len(l))
	for i, t := range l {
		out[i] = api.Term{Key: slices.Clone(t.Key), Msg: slices.Clone(t.Msg)}
	}
	return out
}

// otherPlace asks each term from the last one on, so the first place at which it stands is the one it ends with.
func otherPlace(l []api.Term, t api.Term) int {
	place := -1
	for i := len(l) - 1; i >= 0; i-- {
		if same(l[i], t) {
			place = i
		}
	}
	return place
}

// otherRight holds each term against each one behind it.
func otherRight(l []api.Term) bool {
	for i := range l {
		for j := i + 1; j < len(l); j++ {
			if same(l[i], l[j]) {
				return false
			}
		}
	}
	return true
}

// neighbours are pairs of unlike terms that are easily taken for one: of the same bytes otherwise cut, with bytes 0 or
// marks between or behind them, not of UTF-8, or unlike but at their ends.
func neighbours() [][2]api.Term {
	long := strings.Repeat("x", 300)
	return [][2]api.Term{
		{of("a", "b"), of("b", "a")},
		{of("a", "b"), of("a", "c")},
		{of("a", "b"), of("c", "b")},
		{of("a", "b"), of("A", "b")},
		{of("ab", "c"), of("a", "bc")},
		{of("abc", ""), of("", "abc")},
		{of("", ""), of("", "\x00")},
		{of("", ""), of("\x00", "")},
		{of("\x00", ""), of("", "\x00")},
		{of("a", ""), of("a\x00", "")},
		{of("a", "b"), of("a", "b\x00")},
		{of("a\x00b", "c"), of("a", "b\x00c")},
		{of("a\x00", "b"), of("a", "\x00b")},
		{of("a,b", "c"), of("a", "b,c")},
		{of("a b", "c"), of("a", "b c")},
		{of("a\xff", "b"), of("a", "\xffb")},
		{of("\x01a", ""), of("\x01", "a")},
		{of("\xff", ""), of("\xfe", "")},
		{of("", "\xff"), of("", "\xfe")},
		{of("", "\x80"), of("", "\xef\xbf\xbd")},
		{of("\x7f", ""), of("\xff", "")},
		{of(long, ""), of(long+"x", "")},
		{of(long+"y", ""), of(long+"z", "")},
		{of("", long+"y"), of("", long+"z")},
		{of("y"+long, ""), of("z"+long, "")},
		{of(long, "x"), of("x", long)},
	}
}

// P5.1

func TestRightExamples(t *testing.T) {
	for _, c := range []struct {
		l    []api.Term
		want bool
	}{
		{nil, true},
		{[]api.Term{}, true},
		{terms("", ""), true},
		{[]api.Term{{}}, true},
		{terms("a", "b"), true},
		{terms("a", "b", "a", "b"), false},
		{terms("a", "a", "b", "b"), true},
		{terms("a", "b", "b", "a", "a", "a", "b", "b"), true},
		{terms("a", "b", "c", "d", "a", "b"), false},
		{terms("c", "d", "a", "b", "a", "b"), false},
		{terms("a", "b", "a", "b", "a", "b"), false},
		{terms("", "", "", ""), false},
		{terms("a", "", "a", ""), false},
		{terms("", "a", "", "a"), false},
		{terms("\xff\x00", "\x00", "\xff\x00", "\x00"), false},
	} {
		if got := Right(c.l); got != c.want {
			t.Errorf("Right(%q) = %v, want %v", c.l, got, c.want)
		}
	}
}

func TestNilTextsAreEmptyOnes(t *testing.T) {
	nothing := []api.Term{{}, {Key: []byte{}}, {Msg: []byte{}}, {Key: []byte{}, Msg: []byte{}}}
	for _, a := range nothing {
		for _, b := range nothing {
			if Right([]api.Term{a, b}) {
				t.Errorf("%#v and %#v are two terms", a, b)
			}
			if got := Place([]api.Term{a}, b.Key, b.Msg); got != 0 {
				t.Errorf("%#v stands at %d in a list of %#v", b, got, a)
			}
			if l, tag := Put([]api.Term{a}, b.Key, b.Msg); len(l) != 1 || !bytes.Equal(tag, word.Put(1)) {
				t.Errorf("%#v is put behind %#v: %#v, %v", b, a, l, tag)
			}
		}
	}
}

// TestRightWhereverTheTwoStand lays the same term at each two places of lists.
func TestRightWhereverTheTwoStand(t *testing.T) {
	for n := range 12 {
		if !Right(many(n)) {
			t.Errorf("%d unlike terms are not right", n)
		}
		for j := range n {
			for i := range j {
				l := many(n)
				l[j] = deep(l)[i]
				if Right(l) {
					t.Errorf("%d terms are right with the same one at %d and at %d", n, i, j)
				}
			}
		}
	}
}

func TestNeighboursAreTwo(t *testing.T) {
	for _, p := range neighbours() {
		for _, q := range [][2]api.Term{p, {p[1], p[0]}} {
			if !Right(q[:]) {
				t.Errorf("Right(%q) = false", q)
			}
			if got := Place(q[:1], q[1].Key, q[1].Msg); got != -1 {
				t.Errorf("Place(%q, %q) = %d, want -1", q[:1], q[1], got)
			}
			if got := Place(q[:], q[1].Key, q[1].Msg); got != 1 {
				t.Errorf("Place(%q, %q) = %d, want 1", q, q[1], got)
			}
			if Right([]api.Term{q[0], q[1], deep(q[:])[0]}) || Right([]api.Term{q[0], q[1], deep(q[:])[1]}) {
				t.Errorf("%q are right with one of them again", q)
			}
			l, tag := Put(q[:1], q[1].Key, q[1].Msg)
			if len(l) != 2 || !same(l[0], q[0]) || !same(l[1], q[1]) || !bytes.Equal(tag, word.Put(2)) {
				t.Errorf("Put(%q, %q) = %q, %v", q[:1], q[1], l, tag)
			}
		}
	}
}

func TestRightOfManyTerms(t *testing.T) {
	l := many(70000)
	if !Right(l) {
		t.Error("unlike terms are not right")
	}
	l = append(l, deep(l[:1])...)
	if Right(l) {
		t.Error("terms are right with the first one again behind all others")
	}
}

func TestPlaceExamples(t *testing.T) {
	l := terms("a", "b", "b", "a", "", "", "a", "b", "c", "d", "c", "d", "", "")
	for _, c := range []struct {
		key, msg string
		want     int
	}{
		{"a", "b", 0},
		{"b", "a", 1},
		{"", "", 2},
		{"c", "d", 4},
		{"a", "a", -1},
		{"b", "b", -1},
		{"a", "", -1},
		{"", "a", -1},
		{"", "b", -1},
		{"ab", "", -1},
		{"", "ab", -1},
		{"a", "d", -1},
		{"c", "b", -1},
		{"d", "c", -1},
		{"a\x00", "b", -1},
		{"a", "b\x00", -1},
	} {
		if got := Place(l, []byte(c.key), []byte(c.msg)); got != c.want {
			t.Errorf("Place(%q, %q) = %d, want %d", c.key, c.msg, got, c.want)
		}
	}
}

func TestPlaceInNoTerms(t *testing.T) {
	for _, l := range [][]api.Term{nil, {}, many(3)[:0]} {
		for _, b := range [][]byte{nil, {}, []byte("key")} {
			if got := Place(l, b, b); got != -1 {
				t.Errorf("Place(%#v, %#v) = %d, want -1", l, b, got)
			}
		}
	}
	// What is behind the terms, in their spare room, is none of them.
	l := many(3)
	if got := Place(l[:2], l[2].Key, l[2].Msg); got != -1 {
		t.Errorf("a term behind the list has place %d", got)
	}
}

func TestPlaceOfEach(t *testing.T) {
	l := many(300)
	for i, x := range deep(l) {
		if got := Place(l, x.Key, x.Msg); got != i {
			t.Errorf("the term at %d has place %d", i, got)
		}
	}
}

// TestShortListsAll goes through each list of at most four terms of five, right or not, and each term asked of it.
func TestShortListsAll(t *testing.T) {
	kinds := []api.Term{of("", ""), of("a", ""), of("", "a"), of("a", "a"), of("aa", "")}
	lists := [][]api.Term{{}}
	for at := 0; at < len(lists); at++ {
		if len(lists[at]) == 4 {
			break
		}
		for _, k := range kinds {
			lists = append(lists, append(slices.Clone(lists[at]), k))
		}
	}
	for _, l := range lists {
		if got, want := Right(l), otherRight(l); got != want {
			t.Errorf("Right(%q) = %v, want %v", l, got, want)
		}
		for _, k := range kinds {
			want := otherPlace(l, k)
			if got := Place(l, k.Key, k.Msg); got != want {
				t.Errorf("Place(%q, %q) = %d, want %d", l, k, got, want)
			}
			wantTerms := slices.Clone(l)
			if want < 0 {
				want, wantTerms = len(l), append(wantTerms, k)
			}
			got, tag := Put(l, k.Key, k.Msg)
			if !slices.EqualFunc(got, wantTerms, same) || !bytes.Equal(tag, word.Put(uint64(want+1))) {
				t.Errorf("Put(%q, %q) = %q, %v, want %q, %d", l, k, got, tag, wantTerms, want+1)
			}
		}
	}
}

// P5.2

// TestExample is the chapter's, with the two tags behind it.
func TestExample(t *testing.T) {
	l, tag := Put(nil, []byte("key"), []byte("text"))
	if !slices.EqualFunc(l, terms("key", "text"), same) || !bytes.Equal(tag, []byte{0, 0, 0, 0, 0, 0, 0, 1}) {
		t.Errorf("Put(nil, key, text) = %q, %v", l, tag)
	}
	l, tag = Put(l, []byte("key"), []byte("other"))
	if !slices.EqualFunc(l, terms("key", "text", "key", "other"), same) || !bytes.Equal(tag, []byte{0, 0, 0, 0, 0, 0, 0, 2}) {
		t.Errorf("a second term: %q, %v", l, tag)
	}
	l, tag = Put(l, []byte("key"), []byte("text"))
	if !slices.EqualFunc(l, terms("key", "text", "key", "other"), same) || !bytes.Equal(tag, []byte{0, 0, 0, 0, 0, 0, 0, 1}) {
		t.Errorf("the first term again: %q, %v", l, tag)
	}
	for i, want := range terms("key", "text", "key", "other") {
		got, e := Of(l, []byte{0, 0, 0, 0, 0, 0, 0, byte(i + 1)})
		if !same(got, want) || e != api.OK {
			t.Errorf("the term of tag %d = %q, %v, want %q, ok", i+1, got, e, want)
		}
	}
}

// TestTagsOfGreatPlaces: a tag has all eight bytes of its number, the highest first.
func TestTagsOfGreatPlaces(t *testing.T) {
	for _, c := range []struct {
		n   int
		tag []byte
	}{
		{0, []byte{0, 0, 0, 0, 0, 0, 0, 1}},
		{254, []byte{0, 0, 0, 0, 0, 0, 0, 255}},
		{255, []byte{0, 0, 0, 0, 0, 0, 1, 0}},
		{256, []byte{0, 0, 0, 0, 0, 0, 1, 1}},
		{65534, []byte{0, 0, 0, 0, 0, 0, 255, 255}},
		{65535, []byte{0, 0, 0, 0, 0, 1, 0, 0}},
		{70000, []byte{0, 0, 0, 0, 0, 1, 17, 113}},
	} {
		l, tag := Put(many(c.n), []byte("new"), []byte("text"))
		if len(l) != c.n+1 || !bytes.Equal(tag, c.tag) {
			t.Errorf("behind %d terms there are %d, and the tag is %v, want %v", c.n, len(l), tag, c.tag)
		}
		if got, e := Of(l, c.tag); !same(got, of("new", "text")) || e != api.OK {
			t.Errorf("Of(.., %v) = %q, %v", c.tag, got, e)
		}
		again, tag := Put(l, []byte("new"), []byte("text"))
		if len(again) != c.n+1 || !bytes.Equal(tag, c.tag) {
			t.Errorf("put again behind %d terms there are %d, and the tag is %v, want %v", c.n, len(again), tag, c.tag)
		}
	}
}

// TestPutOfATermThatStandsTwice: such terms aren't right, but what is said of the first place holds for them.
func TestPutOfATermThatStandsTwice(t *testing.T) {
	l := terms("a", "b", "c", "d", "c", "d", "a", "b")
	for key, c := range map[string]struct {
		msg string
		tag uint64
		len int
	}{"a": {"b", 1, 4}, "c": {"d", 2, 4}, "d": {"c", 5, 5}} {
		got, tag := Put(l, []byte(key), []byte(c.msg))
		if len(got) != c.len || !slices.EqualFunc(got[:4], l, same) || !bytes.Equal(tag, word.Put(c.tag)) {
			t.Errorf("Put(%q, %q) = %q, %v", key, c.msg, got, tag)
		}
	}
	for i, want := range l {
		if got, e := Of(l, word.Put(uint64(i+1))); !same(got, want) || e != api.OK {
			t.Errorf("the term of tag %d = %q, %v, want %q, ok", i+1, got, e, want)
		}
	}
}

func TestOfATagOfAnotherLength(t *testing.T) {
	for _, l := range [][]api.Term{nil, {}, many(1), many(300)} {
		for n := range 40 {
			if n == 8 {
				continue
			}
			for _, fill := range []byte{0, 1, 255} {
				tag := bytes.Repeat([]byte{fill}, n)
				if got, e := Of(l, tag); got.Key != nil || got.Msg != nil || e != api.ErrArg {
					t.Errorf("Of(%d terms, %v) = %q, %v, want none, argument", len(l), tag, got, e)
				}
			}
		}
		// Neither the tag's least bytes nor its bytes with others around them are the tag.
		for _, tag := range [][]byte{nil, {1}, {0, 0, 0, 1}, {0, 0, 0, 0, 0, 0, 1}, {0, 0, 0, 0, 0, 0, 0, 0, 1}, {0, 0, 0, 0, 0, 0, 0, 1, 0}} {
			if got, e := Of(l, tag); got.Key != nil || got.Msg != nil || e != api.ErrArg {
				t.Errorf("Of(%d terms, %v) = %q, %v, want none, argument", len(l), tag, got, e)
			}
		}
	}
}

func TestOfATagOfNoPlace(t *testing.T) {
	for _, n := range []int{0, 1, 2, 255, 256, 300} {
		l := many(n)
		numbers := []uint64{0, uint64(n) + 1, uint64(n) + 2, uint64(n) + 256, 1 << 16, 1<<32 - 1}
		// Those that would be a place's, if a number's upper bits or its sign fell off, or its bytes stood the other way.
		for _, up := range []uint64{1 << 32, 1 << 56, 1 << 62, 1 << 63, 1<<64 - 1<<32, 1<<64 - 1<<16} {
			numbers = append(numbers, up, up+1, up+uint64(n))
		}
		numbers = append(numbers, math.MaxUint64, math.MaxUint64-1, math.MaxInt64, math.MaxInt64-1)
		for _, v := range numbers {
			if got, e := Of(l, word.Put(v)); got.Key != nil || got.Msg != nil || e != api.ErrNone {
				t.Errorf("Of(%d terms, %d) = %q, %v, want none, none", n, v, got, e)
			}
		}
	}
	// What is behind the terms, in their spare room, is none of them.
	if got, e := Of(many(3)[:2], word.Put(3)); got.Key != nil || got.Msg != nil || e != api.ErrNone {
		t.Errorf("a term behind the list is %q, %v", got, e)
	}
}

func TestOfEach(t *testing.T) {
	l := many(600)
	for i, want := range deep(l) {
		if got, e := Of(l, word.Put(uint64(i+1))); !same(got, want) || e != api.OK {
			t.Errorf("the term of tag %d = %q, %v, want %q, ok", i+1, got, e, want)
		}
	}
}

// P5.3

// TestTermsStayRight puts terms by chance, and keeps beside them which tag each has.
func TestTermsStayRight(t *testing.T) {
	r := rand.New(rand.NewPCG(19, 20))
	text := func() string {
		b := make([]byte, r.IntN(4))
		for i := range b {
			b[i] = []byte{0, 1, 'a', 255}[r.IntN(4)]
		}
		return string(b)
	}
	for range 20 {
		var l []api.Term
		tags := map[[2]string]string{}
		for range 400 {
			x := of(text(), text())
			name := [2]string{string(x.Key), string(x.Msg)}
			was := l
			next, tag := Put(l, x.Key, x.Msg)
			l = next
			if old, ok := tags[name]; ok && old != string(tag) {
				t.Fatalf("%q had the tag %x, and has %x", x, old, tag)
			}
			tags[name] = string(tag)
			if len(l) != len(tags) || !slices.EqualFunc(l[:len(was)], was, same) {
				t.Fatalf("of %d terms %d stand, or elder ones moved", len(tags), len(l))
			}
			if got, e := Of(l, tag); !same(got, x) || e != api.OK {
				t.Fatalf("Of(.., %v) = %q, %v, want %q, ok", tag, got, e, x)
			}
		}
		if !Right(l) || !otherRight(l) {
			t.Fatalf("%q are not right", l)
		}
		owners := map[string][2]string{}
		for name, tag := range tags {
			if owner, ok := owners[tag]; ok {
				t.Fatalf("%q and %q have the same tag %x", owner, name, tag)
			}
			owners[tag] = name
			if got, e := Of(l, []byte(tag)); !same(got, of(name[0], name[1])) || e != api.OK {
				t.Fatalf("Of(.., %x) = %q, %v, want %q, ok", tag, got, e, name)
			}
		}
	}
}

// TestATermKeepsItsTag asks for each tag again after each term that is put behind it.
func TestATermKeepsItsTag(t *testing.T) {
	var l []api.Term
	var tags [][]byte
	for i, x := range many(300) {
		next, tag := Put(l, x.Key, x.Msg)
		if len(next) != i+1 {
			t.Fatalf("behind the term put at %d there are %d", i, len(next))
		}
		l, tags = next, append(tags, tag)
		for j, y := range many(i + 1) {
			if got, e := Of(l, tags[j]); !same(got, y) || e != api.OK {
				t.Fatalf("behind %d terms, tag %v is of %q, %v, want %q, ok", i+1, tags[j], got, e, y)
			}
		}
	}
	for j, y := range many(300) {
		again, tag := Put(l, y.Key, y.Msg)
		if len(again) != 300 || !bytes.Equal(tag, tags[j]) {
			t.Errorf("put again, the term at %d has the tag %v, want %v", j, tag, tags[j])
		}
	}
}

// The rules that hold everywhere: nothing handed in is changed or kept, its spare room neither; answers are new memory.

func TestArgumentsStayAsTheyAre(t *testing.T) {
	room := many(9)
	roomWas := deep(room)
	text := []byte("key and text")
	textWas := slices.Clone(text)
	tag := append(word.Put(2), 1, 2, 3)
	tagWas := slices.Clone(tag)
	for n := range room {
		Right(room[:n])
		Place(room[:n], text[:3], text[8:])
		Put(room[:n], text[:3], text[8:])
		Put(room[:n], room[0].Key, room[0].Msg)
		Of(room[:n], tag[:8])
		Of(room[:n], tag)
	}
	if !slices.EqualFunc(room, roomWas, same) || !bytes.Equal(text, textWas) || !bytes.Equal(tag, tagWas) {
		t.Error("something handed in was changed")
	}
}

// spoil all bytes of terms, and the terms, with the spare room of both.
func spoil(l []api.Term) {
	for i := range l {
		spoilBytes(l[i].Key)
		spoilBytes(l[i].Msg)
	}
	l = l[:cap(l)]
	for i := range l {
		l[i] = of("spoilt", "spoilt")
	}
}

func spoilBytes(b []byte) {
	b = b[:cap(b)]
	for i := range b {
		b[i] ^= 0x55
	}
}

func TestAnswersAreNewMemory(t *testing.T) {
	for _, again := range []bool{false, true} {
		l, key, msg := many(5), []byte("new"), []byte("text")
		want := append(many(5), of("new", "text"))
		if again {
			key, msg, want = slices.Clone(l[3].Key), slices.Clone(l[3].Msg), many(5)
		}
		got, _ := Put(l, key, msg)
		spoil(l)
		spoilBytes(key)
		spoilBytes(msg)
		if !slices.EqualFunc(got, want, same) {
			t.Errorf("Put keeps what was handed in (there already: %v): %q", again, got)
		}
		l, key, msg = deep(want), []byte("new"), []byte("text")
		got, tag := Put(l, key, msg)
		spoil(got)
		spoilBytes(tag)
		if !slices.EqualFunc(l, want, same) || string(key) != "new" || string(msg) != "text" {
			t.Errorf("what Put answers shares with what was handed in (there already: %v): %q", again, l)
		}
	}
	l := many(5)
	got, _ := Of(l, word.Put(4))
	spoil(l)
	if !same(got, many(5)[3]) {
		t.Errorf("Of keeps what was handed in: %q", got)
	}
	l, tag := many(5), word.Put(4)
	got, _ = Of(l, tag)
	spoil([]api.Term{got})
	if !slices.EqualFunc(l, many(5), same) || !bytes.Equal(tag, word.Put(4)) {
		t.Errorf("what Of answers shares with what was handed in: %q", l)
	}
}

// TestAnswersShareNothing: spoiling one text of an answer leaves all its others, though they were one slice before.
func TestAnswersShareNothing(t *testing.T) {
	one := []byte("one")
	l, _ := Put([]api.Term{{Key: one, Msg: one}, {Key: one}}, nil, one)
	spoilBytes(l[0].Key)
	if string(l[0].Msg) != "one" || string(l[1].Key) != "one" || string(l[2].Msg) != "one" {
		t.Errorf("texts of an answer share memory: %q", l)
	}
	x, _ := Of([]api.Term{{Key: one, Msg: one}}, word.Put(1))
	spoilBytes(x.Key)
	if string(x.Msg) != "one" {
		t.Errorf("texts of a term share memory: %q", x)
	}
}

// TestTwoPutsBehindTheSame: neither is to be seen in the other, though the terms have spare room.
func TestTwoPutsBehindTheSame(t *testing.T) {
	l, _ := Put(many(3), []byte("x"), nil)
	l = append(make([]api.Term, 0, 20), l...)
	one, _ := Put(l, []byte("a"), []byte("one"))
	two, _ := Put(l, []byte("b"), []byte("two"))
	if !same(one[4], of("a", "one")) || !same(two[4], of("b", "two")) {
		t.Errorf("two puts behind the same terms: %q, %q", one, two)
	}
	three, _ := Put(one, []byte("c"), []byte("three"))
	four, _ := Put(one, []byte("d"), []byte("four"))
	if !same(three[5], of("c", "three")) || !same(four[5], of("d", "four")) {
		t.Errorf("two puts behind an answer: %q, %q", three, four)
	}
}
