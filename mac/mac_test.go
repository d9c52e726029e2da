package mac

import (
	"bytes"
	otherhmac "crypto/hmac"
	"crypto/sha256"
	"encoding/hex"
	"math"
	"math/rand/v2"
	"slices"
	"testing"

	"wristband/api"
	"wristband/hmac"
	"wristband/term"
	"wristband/word"
)

// otherTag of a Concrete engine is by the library.
func otherTag(key, msg []byte) []byte {
	h := otherhmac.New(sha256.New, key)
	h.Write(msg)
	return h.Sum(nil)[:8]
}

// terms of keys and texts, in turn.
func terms(texts ...string) []api.Term {
	l := []api.Term{}
	for i := 0; i < len(texts); i += 2 {
		l = append(l, api.Term{Key: []byte(texts[i]), Msg: []byte(texts[i+1])})
	}
	return l
}

// concreteOf terms, which it should have none of.
func concreteOf(l []api.Term) api.Engine {
	return api.Engine{Kind: 1, Terms: l}
}

func symbolicOf(l []api.Term) api.Engine {
	return api.Engine{Kind: 2, Terms: l}
}

func sameTerm(a, b api.Term) bool {
	return bytes.Equal(a.Key, b.Key) && bytes.Equal(a.Msg, b.Msg)
}

// same engines, a list that is nil being an empty one?
func same(a, b api.Engine) bool {
	return a.Kind == b.Kind && slices.EqualFunc(a.Terms, b.Terms, sameTerm)
}

// deep copy of an engine.
func deep(g api.Engine) api.Engine {
	out := api.Engine{Kind: g.Kind}
	for _, t := range g.Terms {
		out.Terms = append(out.Terms, api.Term{Key: slices.Clone(t.Key), Msg: slices.Clone(t.Msg)})
	}
	return out
}

// made is an engine behind tags of keys and texts, in turn, and the tags.
func made(t *testing.T, g api.Engine, texts ...string) (api.Engine, [][]byte) {
	t.Helper()
	var tags [][]byte
	for _, x := range terms(texts...) {
		next, tag, e := Tag(g, x.Key, x.Msg)
		if e != api.OK || len(tag) != 8 {
			t.Fatalf("Tag(.., %q, %q) = %v, %v", x.Key, x.Msg, tag, e)
		}
		g, tags = next, append(tags, tag)
	}
	return g, tags
}

// right engines of both kinds, and of Symbolic ones with some terms.
func rightOnes() []api.Engine {
	return []api.Engine{
		{Kind: api.Concrete},
		{Kind: api.Concrete, Terms: []api.Term{}},
		{Kind: api.Concrete, Terms: terms("behind", "the list")[:0]},
		{Kind: api.Symbolic},
		{Kind: api.Symbolic, Terms: []api.Term{}},
		{Kind: api.Symbolic, Terms: []api.Term{{}}},
		symbolicOf(terms("key", "text")),
		symbolicOf(terms("key", "text", "text", "key")),
		symbolicOf(terms("key", "text", "keyt", "ext", "", "keytext", "keytext", "")),
		symbolicOf(terms("a", "b", "a\x00", "b", "a", "b\x00", "\x00a", "b")),
	}
}

// wrongOnes: no such kind, a Concrete one with terms, and Symbolic ones with a term that is there twice.
func wrongOnes() []api.Engine {
	l := []api.Engine{
		concreteOf([]api.Term{{}}),
		concreteOf(terms("key", "text")),
		concreteOf(terms("key", "text", "a", "b")),
		concreteOf(terms("key", "text", "key", "text")),
		symbolicOf(make([]api.Term, 2)),
		symbolicOf([]api.Term{{}, {Key: []byte{}, Msg: []byte{}}}),
		symbolicOf(terms("key", "text", "key", "text")),
		symbolicOf(terms("key", "text", "a", "b", "key", "text")),
		symbolicOf(terms("key", "text", "a", "b", "a", "b")),
		symbolicOf(terms("a", "b", "a", "b", "key", "text")),
	}
	for _, kind := range noKinds() {
		l = append(l, api.Engine{Kind: kind}, api.Engine{Kind: kind, Terms: []api.Term{}},
			api.Engine{Kind: kind, Terms: terms("key", "text")},
			api.Engine{Kind: kind, Terms: terms("key", "text", "key", "text")})
	}
	return l
}

// noKinds are numbers of no kind of engine.
func noKinds() []int {
	return []int{0, 3, 4, -1, -2, 255, 256, 257, 258, 1<<32 + 1, 1<<32 + 2, math.MaxInt, math.MinInt, math.MinInt + 1, math.MinInt + 2}
}

// P6.1

func TestNewOfEachKind(t *testing.T) {
	if api.Concrete != 1 || api.Symbolic != 2 {
		t.Errorf("the kinds are %d and %d", api.Concrete, api.Symbolic)
	}
	for _, kind := range []int{1, 2} {
		g, e := New(kind)
		if e != api.OK || g.Kind != kind || len(g.Terms) != 0 || !Right(g) {
			t.Errorf("New(%d) = %v, %v", kind, g, e)
		}
	}
}

func TestNewOfNoKind(t *testing.T) {
	for _, kind := range noKinds() {
		if g, e := New(kind); e != api.ErrArg || g.Kind != 0 || g.Terms != nil {
			t.Errorf("New(%d) = %v, %v, want the zero one, argument", kind, g, e)
		}
	}
	for kind := -300; kind <= 300; kind++ {
		_, e := New(kind)
		if (e == api.OK) != (kind == 1 || kind == 2) {
			t.Errorf("New(%d) answers %v", kind, e)
		}
	}
}

func TestRight(t *testing.T) {
	for _, g := range rightOnes() {
		if !Right(g) {
			t.Errorf("Right(%v) = false", g)
		}
	}
	for _, g := range wrongOnes() {
		if Right(g) {
			t.Errorf("Right(%v) = true", g)
		}
	}
}

// TestRightWhereverTheTwoStand lays the same term at each two places of a Symbolic engine's terms.
func TestRightWhereverTheTwoStand(t *testing.T) {
	for n := range 9 {
		l := make([]api.Term, n)
		for i := range l {
			l[i] = api.Term{Key: []byte("key"), Msg: []byte{byte(i)}}
		}
		if !Right(symbolicOf(l)) {
			t.Errorf("an engine of %d unlike terms isn't right", n)
		}
		for j := range n {
			for i := range j {
				twice := slices.Clone(l)
				twice[j] = l[i]
				if Right(symbolicOf(twice)) {
					t.Errorf("an engine of %d terms is right with the same one at %d and at %d", n, i, j)
				}
			}
		}
	}
}

// P6.2

// TestConcreteTagExamples are test cases 1 to 4, 6 and 7 of RFC 4231, and tags of nothing.
func TestConcreteTagExamples(t *testing.T) {
	upTo25 := make([]byte, 25)
	for i := range upTo25 {
		upTo25[i] = byte(i + 1)
	}
	for _, c := range []struct {
		key  []byte
		msg  string
		want string
	}{
		{bytes.Repeat([]byte{0x0b}, 20), "Hi There", "b0344c61d8db3853"},
		{[]byte("Jefe"), "what do ya want for nothing?", "5bdcc146bf60754e"},
		{bytes.Repeat([]byte{0xaa}, 20), string(bytes.Repeat([]byte{0xdd}, 50)), "773ea91e36800e46"},
		{upTo25, string(bytes.Repeat([]byte{0xcd}, 50)), "82558a389a443c0e"},
		{bytes.Repeat([]byte{0xaa}, 131), "Test Using Larger Than Block-Size Key - Hash Key First", "60e431591ee0b67f"},
		{bytes.Repeat([]byte{0xaa}, 131), "This is a test using a larger than block-size key and a larger than block-size data. The key needs to be hashed before being used by the HMAC algorithm.", "9b09ffa71b942fcb"},
		{nil, "", "b613679a0814d9ec"},
	} {
		g, tag, e := Tag(concreteOf(nil), c.key, []byte(c.msg))
		if e != api.OK || hex.EncodeToString(tag) != c.want || g.Kind != 1 || len(g.Terms) != 0 {
			t.Errorf("Tag(concrete, %x, %q) = %v, %x, %v, want %s", c.key, c.msg, g, tag, e, c.want)
		}
		if !Fits(concreteOf(nil), c.key, []byte(c.msg), tag) {
			t.Errorf("the tag of %q by %x doesn't fit", c.msg, c.key)
		}
	}
}

func TestConcreteTagOfEachLength(t *testing.T) {
	g := concreteOf(nil)
	text := bytes.Repeat([]byte("0123456789abcdef\xff\x00"), 20)
	for _, k := range []int{0, 1, 8, 31, 32, 33, 63, 64, 65, 200} {
		for m := range 140 {
			key, msg := text[:k], text[k:k+m]
			next, tag, e := Tag(g, key, msg)
			if !bytes.Equal(tag, otherTag(key, msg)) || e != api.OK || !same(next, g) {
				t.Errorf("Tag of %d bytes by %d = %v, %x, %v, want %x", m, k, next, tag, e, otherTag(key, msg))
			}
			if full := hmac.Mac(key, msg); !bytes.Equal(tag, full[:8]) {
				t.Errorf("the tag %x doesn't begin layer 3's %x", tag, full)
			}
			if !Fits(g, key, msg, tag) {
				t.Errorf("the tag of %d bytes by %d doesn't fit", m, k)
			}
		}
	}
}

// TestConcreteTagEndsThere: the rest of layer 3's tag isn't to be had from behind it.
func TestConcreteTagEndsThere(t *testing.T) {
	_, tag, _ := Tag(concreteOf(nil), []byte("key"), []byte("text"))
	full := hmac.Mac([]byte("key"), []byte("text"))
	if room := tag[:cap(tag)]; len(room) > 8 && bytes.HasPrefix(full, room[:9]) {
		t.Errorf("behind the tag there is more of layer 3's: %x", room)
	}
}

func TestSymbolicTags(t *testing.T) {
	g, e := New(api.Symbolic)
	if e != api.OK {
		t.Fatal(e)
	}
	for i, c := range []struct {
		key, msg string
		tag      uint64
		terms    int
	}{
		{"key", "text", 1, 1},
		{"key", "other", 2, 2},
		{"key", "text", 1, 2},
		{"text", "key", 3, 3},
		{"", "", 4, 4},
		{"key", "other", 2, 4},
		{"", "keytext", 5, 5},
		{"keytext", "", 6, 6},
		{"key\x00", "text", 7, 7},
		{"", "", 4, 7},
	} {
		wantTerms, wantTag := term.Put(g.Terms, []byte(c.key), []byte(c.msg))
		next, tag, e := Tag(g, []byte(c.key), []byte(c.msg))
		if e != api.OK || !bytes.Equal(tag, word.Put(c.tag)) || len(next.Terms) != c.terms {
			t.Fatalf("at %d Tag(.., %q, %q) = %v, %v, %v, want the tag %d behind %d terms", i, c.key, c.msg, next, tag, e, c.tag, c.terms)
		}
		if !same(next, symbolicOf(wantTerms)) || !bytes.Equal(tag, wantTag) {
			t.Fatalf("at %d Tag(.., %q, %q) = %v, %v, and layer 5 tells %q, %v", i, c.key, c.msg, next, tag, wantTerms, wantTag)
		}
		g = next
	}
}

func TestTagByAnEngineThatIsNotRight(t *testing.T) {
	for _, g := range wrongOnes() {
		was := deep(g)
		for _, x := range terms("key", "text", "a", "b", "", "", "new", "one") {
			got, tag, e := Tag(g, x.Key, x.Msg)
			if e != api.ErrArg || tag != nil || !same(got, was) {
				t.Errorf("Tag(%v, %q, %q) = %v, %v, %v, want it as it is, none, argument", g, x.Key, x.Msg, got, tag, e)
			}
		}
	}
}

func TestFitsByAnEngineThatIsNotRight(t *testing.T) {
	for _, g := range wrongOnes() {
		for _, x := range terms("key", "text", "a", "b", "", "") {
			tags := [][]byte{nil, {}, otherTag(x.Key, x.Msg), hmac.Mac(x.Key, x.Msg)}
			for n := range uint64(4) {
				tags = append(tags, word.Put(n))
			}
			for _, tag := range tags {
				if Fits(g, x.Key, x.Msg, tag) {
					t.Errorf("by %v the tag %v fits %q, %q", g, tag, x.Key, x.Msg)
				}
			}
		}
	}
}

// TestConcreteFitsThatTagAlone: no tag with a bit turned, none with fewer bytes or more, and no other text's.
func TestConcreteFitsThatTagAlone(t *testing.T) {
	g, key, msg := concreteOf(nil), []byte("key"), []byte("text")
	tag := otherTag(key, msg)
	if !Fits(g, key, msg, tag) {
		t.Fatalf("%x doesn't fit", tag)
	}
	for i := range 64 {
		turned := slices.Clone(tag)
		turned[i/8] ^= 1 << (i % 8)
		if Fits(g, key, msg, turned) {
			t.Errorf("with bit %d turned, %x fits", i, turned)
		}
	}
	full := hmac.Mac(key, msg)
	for n := range 33 {
		if n != 8 && Fits(g, key, msg, full[:n]) {
			t.Errorf("%d bytes of layer 3's tag fit", n)
		}
	}
	for _, other := range [][]byte{nil, make([]byte, 8), append(slices.Clone(tag), 0), append([]byte{0}, tag...), full[8:16], full[24:], word.Put(1)} {
		if Fits(g, key, msg, other) {
			t.Errorf("%x fits", other)
		}
	}
	for _, x := range terms("text", "key", "key", "tex", "ke", "ytext", "", "keytext", "keytext", "", "key", "text\x00", "key", "", "", "text", "Key", "text") {
		if Fits(g, x.Key, x.Msg, tag) {
			t.Errorf("the tag of key and text fits %q and %q", x.Key, x.Msg)
		}
	}
}

// TestByANewSymbolicEngineNothingFits is the chapter's example.
func TestByANewSymbolicEngineNothingFits(t *testing.T) {
	g, _ := New(api.Symbolic)
	for _, x := range terms("", "", "key", "text", "a", "b") {
		tags := [][]byte{nil, {}, otherTag(x.Key, x.Msg), make([]byte, 8), bytes.Repeat([]byte{255}, 8), x.Key, x.Msg}
		for n := range uint64(300) {
			tags = append(tags, word.Put(n))
		}
		for _, tag := range tags {
			if Fits(g, x.Key, x.Msg, tag) {
				t.Errorf("by a new Symbolic engine %v fits %q, %q", tag, x.Key, x.Msg)
			}
		}
	}
}

// TestSymbolicFitsThatTagAlone holds each term of an engine against each tag, with tags of no place and of other lengths.
func TestSymbolicFitsThatTagAlone(t *testing.T) {
	l := terms("key", "text", "text", "key", "", "keytext", "keytext", "", "key\x00", "text", "key", "text\x00", "", "", "ke", "ytext")
	g := symbolicOf(l)
	for i, x := range l {
		for n := range uint64(len(l) + 3) {
			if got, want := Fits(g, x.Key, x.Msg, word.Put(n)), n == uint64(i+1); got != want {
				t.Errorf("the tag %d of %q, %q at %d: Fits = %v, want %v", n, x.Key, x.Msg, i, got, want)
			}
		}
		tag := word.Put(uint64(i + 1))
		for _, up := range []uint64{1 << 8, 1 << 16, 1 << 32, 1 << 62, 1 << 63, 1<<64 - 1<<8, 1<<64 - 1<<32} {
			if Fits(g, x.Key, x.Msg, word.Put(up+uint64(i+1))) {
				t.Errorf("a tag with other upper bits fits: %x", up+uint64(i+1))
			}
		}
		for n := range 8 {
			if Fits(g, x.Key, x.Msg, tag[:n]) || Fits(g, x.Key, x.Msg, tag[8-n:]) {
				t.Errorf("%d bytes of the tag %v fit", n, tag)
			}
		}
		slices.Reverse(tag)
		if Fits(g, x.Key, x.Msg, tag) || Fits(g, x.Key, x.Msg, append(word.Put(uint64(i+1)), 0)) ||
			Fits(g, x.Key, x.Msg, append([]byte{0}, word.Put(uint64(i+1))...)) || Fits(g, x.Key, x.Msg, otherTag(x.Key, x.Msg)) {
			t.Errorf("another tag than that of %q, %q fits", x.Key, x.Msg)
		}
	}
	// What is in none of its terms fits no tag, nor what is in the spare room of its list.
	for _, x := range terms("key", "", "", "text", "", "key", "text", "", "key", "key", "text", "text", "k", "eytext", "key", "Text") {
		for n := range uint64(len(l) + 3) {
			if Fits(g, x.Key, x.Msg, word.Put(n)) {
				t.Errorf("the tag %d fits %q, %q, which is no term", n, x.Key, x.Msg)
			}
		}
	}
	if last := l[len(l)-1]; Fits(symbolicOf(l[:len(l)-1]), last.Key, last.Msg, word.Put(uint64(len(l)))) {
		t.Error("a tag of a term behind the list fits")
	}
}

// TestFitsMakesNothing: asking whether a tag fits doesn't make it fit.
func TestFitsMakesNothing(t *testing.T) {
	room := terms("a", "b", "c", "d")
	g := symbolicOf(room[:1])
	for range 3 {
		if Fits(g, []byte("key"), []byte("text"), word.Put(2)) {
			t.Error("the tag behind all others fits what was not made")
		}
	}
	if !same(symbolicOf(room), symbolicOf(terms("a", "b", "c", "d"))) {
		t.Errorf("the list's spare room was changed: %q", room)
	}
}

// P6.3

// TestMadeTagsFit makes tags by chance, and asks of each, by each engine behind it, whether it fits, and what else does.
func TestMadeTagsFit(t *testing.T) {
	r := rand.New(rand.NewPCG(6, 3))
	text := func() string {
		b := make([]byte, r.IntN(3))
		for i := range b {
			b[i] = []byte{'a', 255}[r.IntN(2)]
		}
		return string(b)
	}
	for _, kind := range []int{api.Concrete, api.Symbolic} {
		g, _ := New(kind)
		tags := map[[2]string][]byte{}
		for range 100 {
			key, msg := text(), text()
			if tags[[2]string{key, msg}] == nil && kind == api.Symbolic {
				for n := range uint64(len(tags) + 3) {
					if Fits(g, []byte(key), []byte(msg), word.Put(n)) {
						t.Fatalf("%d fits %q, %q, ahead of being made", n, key, msg)
					}
				}
			}
			next, tag, e := Tag(g, []byte(key), []byte(msg))
			if e != api.OK || !Right(next) || next.Kind != kind || len(tag) != 8 {
				t.Fatalf("Tag(.., %q, %q) = %v, %v, %v", key, msg, next, tag, e)
			}
			if old := tags[[2]string{key, msg}]; old != nil && !bytes.Equal(old, tag) {
				t.Fatalf("%q, %q had the tag %v, and has %v", key, msg, old, tag)
			}
			g, tags[[2]string{key, msg}] = next, tag
			for a, x := range tags {
				for b, y := range tags {
					if got, want := Fits(g, []byte(a[0]), []byte(a[1]), y), a == b; got != want {
						t.Fatalf("kind %d: the tag %v of %q fits %q: %v; its own is %v", kind, y, b, a, got, x)
					}
				}
			}
		}
	}
}

// TestTagsFitByLaterEngines: an elder engine doesn't have the term, each later one does.
func TestTagsFitByLaterEngines(t *testing.T) {
	engines := []api.Engine{{Kind: api.Symbolic}}
	var tags [][]byte
	l := terms("a", "1", "b", "2", "c", "3", "d", "4", "e", "5")
	for i, x := range l {
		next, tag, _ := Tag(engines[i], x.Key, x.Msg)
		engines, tags = append(engines, next), append(tags, tag)
	}
	for i, x := range l {
		for j, g := range engines {
			if got, want := Fits(g, x.Key, x.Msg, tags[i]), j > i; got != want {
				t.Errorf("the tag made at %d, by the engine ahead of %d: Fits = %v, want %v", i, j, got, want)
			}
		}
	}
}

// TestKindsOfTags: by a Symbolic engine a key with a byte 0 behind it is another key, by a Concrete one it isn't.
func TestKindsOfTags(t *testing.T) {
	g, tags := made(t, symbolicOf(nil), "key", "text", "key\x00", "text")
	if bytes.Equal(tags[0], tags[1]) || Fits(g, []byte("key"), []byte("text"), tags[1]) || Fits(g, []byte("key\x00"), []byte("text"), tags[0]) {
		t.Errorf("two keys have one tag: %v", tags)
	}
	g, tags = made(t, concreteOf(nil), "key", "text", "key\x00", "text")
	if !bytes.Equal(tags[0], tags[1]) || !Fits(g, []byte("key"), []byte("text"), tags[1]) || !Fits(g, []byte("key\x00"), []byte("text"), tags[0]) {
		t.Errorf("a key filled up has another tag: %v", tags)
	}
}

// The rules that hold everywhere: nothing handed in is changed or kept, its spare room neither; answers are new memory.

func TestArgumentsStayAsTheyAre(t *testing.T) {
	for _, g := range append(rightOnes(), wrongOnes()...) {
		room := append(deep(g).Terms, terms("spare", "room", "spare too", "")...)
		roomWas := deep(api.Engine{Terms: room}).Terms
		arg := api.Engine{Kind: g.Kind, Terms: room[:len(g.Terms)]}
		text := []byte("key and text and 12345678 behind")
		textWas := slices.Clone(text)
		New(g.Kind)
		Right(arg)
		Tag(arg, text[:3], text[8:12])
		Fits(arg, text[:3], text[8:12], text[17:25])
		if !slices.EqualFunc(room, roomWas, sameTerm) || !bytes.Equal(text, textWas) {
			t.Errorf("of %v, something handed in was changed: %q, %q", g, room, text)
		}
	}
}

// spoil all bytes of an engine's terms, and the terms, with the spare room of both.
func spoil(g api.Engine) {
	for _, x := range g.Terms {
		spoilBytes(x.Key)
		spoilBytes(x.Msg)
	}
	l := g.Terms[:cap(g.Terms)]
	for i := range l {
		l[i] = api.Term{Key: []byte("spoilt"), Msg: []byte("spoilt")}
	}
}

func spoilBytes(b []byte) {
	b = b[:cap(b)]
	for i := range b {
		b[i] ^= 0x55
	}
}

func TestAnswersAreNewMemory(t *testing.T) {
	for _, g := range append(rightOnes(), wrongOnes()...) {
		for _, x := range terms("key", "text", "new", "one", "", "") {
			want, wantTag, _ := Tag(g, x.Key, x.Msg)

			arg, key, msg := deep(g), slices.Clone(x.Key), slices.Clone(x.Msg)
			got, tag, _ := Tag(arg, key, msg)
			spoil(arg)
			spoilBytes(key)
			spoilBytes(msg)
			if !same(got, want) || !bytes.Equal(tag, wantTag) {
				t.Errorf("Tag(%v, ..) keeps what was handed in: %v, %v, want %v, %v", g, got, tag, want, wantTag)
			}

			arg, key, msg = deep(g), slices.Clone(x.Key), slices.Clone(x.Msg)
			got, tag, _ = Tag(arg, key, msg)
			spoil(got)
			spoilBytes(tag)
			if !same(arg, g) || !bytes.Equal(key, x.Key) || !bytes.Equal(msg, x.Msg) {
				t.Errorf("what Tag(%v, ..) answers shares with what was handed in: %v, %q, %q", g, arg, key, msg)
			}
		}
	}
}

// TestAnswersHaveNoneOfTheSpareRoom: what is put behind an answer's terms isn't put behind those that were handed in.
func TestAnswersHaveNoneOfTheSpareRoom(t *testing.T) {
	for _, kind := range []int{0, 1, 2} {
		room := terms("key", "text", "a", "b", "c", "d")
		for n := range room {
			for _, x := range terms("key", "text", "new", "one") {
				got, _, _ := Tag(api.Engine{Kind: kind, Terms: room[:n]}, x.Key, x.Msg)
				_ = append(got.Terms, terms("put", "behind")...)
				spoil(got)
				if !slices.EqualFunc(room, terms("key", "text", "a", "b", "c", "d"), sameTerm) {
					t.Fatalf("by an engine of kind %d and %d terms, %v shares their spare room: %q", kind, n, got, room)
				}
			}
		}
	}
}

// TestAnswersShareNothing: spoiling one list of an answer leaves all its others, though they were one slice before.
func TestAnswersShareNothing(t *testing.T) {
	one := []byte("one")
	for _, g := range []api.Engine{
		{Kind: 2, Terms: []api.Term{{Key: one, Msg: one}, {Key: one}}},
		{Kind: 1, Terms: []api.Term{{Key: one, Msg: one}, {Key: one}}},
		{Kind: 0, Terms: []api.Term{{Key: one, Msg: one}, {Key: one}, {Key: one}}},
		{Kind: 2, Terms: []api.Term{{Key: one, Msg: one}, {Key: one}, {Key: one}}},
	} {
		got, _, _ := Tag(g, one, nil)
		spoilBytes(got.Terms[0].Key)
		if string(got.Terms[0].Msg) != "one" || string(got.Terms[1].Key) != "one" || string(one) != "one" {
			t.Errorf("texts of an answer share memory: %v", got)
		}
	}
	// A tag is apart from the engine behind it, also from the next one that is made the same way.
	for _, kind := range []int{api.Concrete, api.Symbolic} {
		g, tags := made(t, api.Engine{Kind: kind}, "key", "text", "key", "text")
		spoilBytes(tags[0])
		if bytes.Equal(tags[0], tags[1]) || !Fits(g, []byte("key"), []byte("text"), tags[1]) {
			t.Errorf("tags of kind %d share memory: %v", kind, tags)
		}
	}
}

// TestTwoTagsByTheSameEngine: neither is to be seen in the engine behind the other, though its list has spare room.
func TestTwoTagsByTheSameEngine(t *testing.T) {
	roomy := symbolicOf(append(make([]api.Term, 0, 20), terms("x", "y")...))
	answered, _ := made(t, roomy, "z", "y")
	for _, g := range []api.Engine{roomy, answered} {
		one, oneTag, _ := Tag(g, []byte("a"), []byte("one"))
		two, twoTag, _ := Tag(g, []byte("b"), []byte("two"))
		if !bytes.Equal(oneTag, twoTag) || !Fits(one, []byte("a"), []byte("one"), oneTag) || !Fits(two, []byte("b"), []byte("two"), twoTag) {
			t.Errorf("two tags by one engine: %v, %v, %v, %v", one, oneTag, two, twoTag)
		}
		if Fits(one, []byte("b"), []byte("two"), oneTag) || Fits(two, []byte("a"), []byte("one"), twoTag) {
			t.Errorf("an engine has the other's term: %v, %v", one, two)
		}
	}
}
