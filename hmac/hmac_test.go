package hmac

import (
	"bytes"
	otherhmac "crypto/hmac"
	"crypto/sha256"
	"encoding/hex"
	"math/rand/v2"
	"slices"
	"testing"
)

// randomText of n bytes, the same one for the same n; none of them is 0, so that what is filled up shows.
func randomText(n int) []byte {
	r := rand.New(rand.NewPCG(8, uint64(n)))
	b := make([]byte, n)
	for i := range b {
		b[i] = byte(1 + r.IntN(255))
	}
	return b
}

// otherMac is the tag by the library.
func otherMac(key, msg []byte) []byte {
	h := otherhmac.New(sha256.New, key)
	h.Write(msg)
	return h.Sum(nil)
}

// keyLengths about the edges: nothing, a hash's size, a block's, and more.
func keyLengths() []int {
	return []int{0, 1, 2, 20, 31, 32, 33, 55, 56, 62, 63, 64, 65, 66, 127, 128, 129, 131, 300}
}

// P3.1

func TestBlockIsTheKeyFilledUp(t *testing.T) {
	for n := range 65 {
		key := randomText(n)
		got := Block(key)
		if len(got) != 64 || !bytes.Equal(got[:n], key) || !bytes.Equal(got[n:], make([]byte, 64-n)) {
			t.Errorf("Block of a key of %d bytes = %v, want %v and %d bytes 0", n, got, key, 64-n)
		}
	}
}

func TestBlockOfALongKeyIsItsHashFilledUp(t *testing.T) {
	for _, n := range []int{65, 66, 96, 127, 128, 129, 1000} {
		key := randomText(n)
		sum := sha256.Sum256(key)
		want := append(sum[:], make([]byte, 32)...)
		if got := Block(key); !bytes.Equal(got, want) {
			t.Errorf("Block of a key of %d bytes = %v, want %v", n, got, want)
		}
	}
}

func TestBlockOfNoKey(t *testing.T) {
	for _, key := range [][]byte{nil, {}} {
		if got := Block(key); !bytes.Equal(got, make([]byte, 64)) {
			t.Errorf("Block(%#v) = %v, want 64 bytes 0", key, got)
		}
	}
}

func TestBlockKeepsBytesZero(t *testing.T) {
	key := []byte{0, 0, 7, 0}
	want := make([]byte, 64)
	want[2] = 7
	if got := Block(key); !bytes.Equal(got, want) {
		t.Errorf("Block(%v) = %v, want %v", key, got, want)
	}
}

// TestMacExamples: the cases of RFC 4231 (the first is the document's example) but the one whose tag is shortened, and
// last, which isn't from there, no key and no text.
func TestMacExamples(t *testing.T) {
	rising := make([]byte, 25)
	for i := range rising {
		rising[i] = byte(i + 1)
	}
	long := bytes.Repeat([]byte{0xaa}, 131)
	for _, c := range []struct {
		key, msg []byte
		want     string
	}{
		{bytes.Repeat([]byte{11}, 20), []byte("Hi There"),
			"b0344c61d8db38535ca8afceaf0bf12b881dc200c9833da726e9376c2e32cff7"},
		{[]byte("Jefe"), []byte("what do ya want for nothing?"),
			"5bdcc146bf60754e6a042426089575c75a003f089d2739839dec58b964ec3843"},
		{bytes.Repeat([]byte{0xaa}, 20), bytes.Repeat([]byte{0xdd}, 50),
			"773ea91e36800e46854db8ebd09181a72959098b3ef8c122d9635514ced565fe"},
		{rising, bytes.Repeat([]byte{0xcd}, 50),
			"82558a389a443c0ea4cc819899f2083a85f0faa3e578f8077a2e3ff46729665b"},
		{long, []byte("Test Using Larger Than Block-Size Key - Hash Key First"),
			"60e431591ee0b67f0d8a26aacbf5b77f8e0bc6213728c5140546040f0ee37f54"},
		{long, []byte("This is a test using a larger than block-size key and a larger than block-size data. " +
			"The key needs to be hashed before being used by the HMAC algorithm."),
			"9b09ffa71b942fcb27635fbcd5b0e944bfdc63644f0713938a7f51535c3a35e2"},
		{nil, nil, "b613679a0814d9ec772f95d778c35fc5ff1697c493715653c6c712144292c5ad"},
	} {
		if got := hex.EncodeToString(Mac(c.key, c.msg)); got != c.want {
			t.Errorf("Mac(%x, %q) = %s, want %s", c.key, c.msg, got, c.want)
		}
	}
	if got := Mac(bytes.Repeat([]byte{11}, 20), []byte("Hi There")); !bytes.HasPrefix(got, []byte{176, 52, 76, 97}) {
		t.Errorf("the document's example begins with %v", got)
	}
}

func TestMacOfEachLength(t *testing.T) {
	for _, n := range keyLengths() {
		key := randomText(n)
		for m := range 200 {
			msg := randomText(m)
			if got, want := Mac(key, msg), otherMac(key, msg); !bytes.Equal(got, want) {
				t.Errorf("Mac of a key of %d and a text of %d bytes = %x, want %x", n, m, got, want)
			}
		}
	}
}

// TestMacByTheWords builds the tag from the document's words, by Block and the library's hash alone.
func TestMacByTheWords(t *testing.T) {
	for _, n := range keyLengths() {
		key, msg := randomText(n), randomText(2*n+1)
		inner, outer := Block(key), Block(key)
		for i := range 64 {
			inner[i] ^= 54
			outer[i] ^= 92
		}
		first := sha256.Sum256(append(inner, msg...))
		want := sha256.Sum256(append(outer, first[:]...))
		if got := Mac(key, msg); !bytes.Equal(got, want[:]) {
			t.Errorf("Mac of a key of %d bytes = %x, want %x", n, got, want)
		}
	}
}

func TestMacOfNothing(t *testing.T) {
	for _, key := range [][]byte{nil, {}, []byte("key")} {
		for _, msg := range [][]byte{nil, {}, []byte("text")} {
			if got, want := Mac(key, msg), otherMac(key, msg); !bytes.Equal(got, want) {
				t.Errorf("Mac(%#v, %#v) = %x, want %x", key, msg, got, want)
			}
		}
	}
}

func TestMacHangsOnKeyAndText(t *testing.T) {
	for _, n := range []int{1, 32, 64, 65, 100} {
		key, msg := randomText(n), []byte("a text")
		tag := Mac(key, msg)
		for i := range key {
			other := slices.Clone(key)
			other[i] ^= 1
			if bytes.Equal(Mac(other, msg), tag) {
				t.Errorf("a key of %d bytes has the same tag with another byte %d", n, i)
			}
		}
		if bytes.Equal(Mac(key, append(slices.Clone(msg), 0)), tag) {
			t.Errorf("by a key of %d bytes, a text with a byte 0 behind it has the same tag", n)
		}
		if bytes.Equal(Mac(msg, key), tag) {
			t.Errorf("a key of %d bytes and the text may be swapped", n)
		}
	}
}

// P3.2

func TestAKeyHasTheTagsOfItsBlock(t *testing.T) {
	for _, n := range keyLengths() {
		key := randomText(n)
		block := Block(key)
		if got := Block(block); !bytes.Equal(got, block) {
			t.Errorf("the block of a block of a key of %d bytes = %v, want %v", n, got, block)
		}
		for _, m := range []int{0, 1, 64, 150} {
			msg := randomText(m)
			if got, want := Mac(block, msg), Mac(key, msg); !bytes.Equal(got, want) {
				t.Errorf("the tag by the block of a key of %d bytes = %x, by the key %x", n, got, want)
			}
		}
	}
}

func TestAByteZeroBehindAShortKeyIsNothing(t *testing.T) {
	for n := range 64 {
		key, msg := randomText(n), randomText(40)
		want := Mac(key, msg)
		for longer := append(slices.Clone(key), 0); len(longer) <= 64; longer = append(longer, 0) {
			if got := Mac(longer, msg); !bytes.Equal(got, want) {
				t.Errorf("a key of %d bytes filled up to %d: %x, want %x", n, len(longer), got, want)
			}
		}
	}
}

func TestAByteZeroBehindALongKeyIsSomething(t *testing.T) {
	for _, n := range []int{64, 65, 128} {
		key, msg := randomText(n), []byte("a text")
		longer := append(slices.Clone(key), 0)
		if bytes.Equal(Block(longer), Block(key)) || bytes.Equal(Mac(longer, msg), Mac(key, msg)) {
			t.Errorf("a key of %d bytes is the same with a byte 0 behind it", n)
		}
	}
}

func TestAByteZeroAheadOfAKeyIsSomething(t *testing.T) {
	key, msg := []byte("key"), []byte("a text")
	if bytes.Equal(Mac([]byte("\x00key"), msg), Mac(key, msg)) {
		t.Error("a key is the same with a byte 0 ahead of it")
	}
}

// The rules that hold everywhere: nothing handed in is changed or kept, its spare room neither, and answers share no
// memory.

func TestArgumentsStayAsTheyAre(t *testing.T) {
	keyRoom, msgRoom := randomText(500), randomText(400)
	keyWas, msgWas := slices.Clone(keyRoom), slices.Clone(msgRoom)
	for _, n := range keyLengths() {
		block := Block(keyRoom[:n])
		clear(block[:cap(block)])
		tag := Mac(keyRoom[:n], msgRoom[:n])
		clear(tag[:cap(tag)])
		if !bytes.Equal(keyRoom, keyWas) || !bytes.Equal(msgRoom, msgWas) {
			t.Fatalf("with a key of %d bytes, something handed in was changed", n)
		}
	}
}

func TestNothingHandedInIsKept(t *testing.T) {
	for _, n := range keyLengths() {
		key, msg := randomText(n), []byte("a text")
		block, tag := Block(key), Mac(key, msg)
		blockWas, tagWas := slices.Clone(block), slices.Clone(tag)
		clear(key)
		clear(msg)
		if !bytes.Equal(block, blockWas) || !bytes.Equal(tag, tagWas) {
			t.Errorf("with a key of %d bytes, what was handed in is kept", n)
		}
	}
}

func TestOneSliceMayBeKeyAndText(t *testing.T) {
	for _, n := range keyLengths() {
		both := randomText(n)
		if got, want := Mac(both, both), otherMac(both, both); !bytes.Equal(got, want) {
			t.Errorf("Mac of %d bytes by themselves = %x, want %x", n, got, want)
		}
	}
}

func TestAnswersAreNewMemory(t *testing.T) {
	key, msg := []byte("key"), []byte("a text")
	wantBlock, wantTag := Block(key), otherMac(key, msg)
	for range 2 {
		block, tag := Block(key), Mac(key, msg)
		if !bytes.Equal(block, wantBlock) || !bytes.Equal(tag, wantTag) {
			t.Errorf("a changed answer showed in the next one: %x, %x, want %x, %x", block, tag, wantBlock, wantTag)
		}
		clear(block)
		clear(tag)
	}
}
