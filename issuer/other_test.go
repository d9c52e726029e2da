package issuer_test

import (
	"bytes"
	otherhmac "crypto/hmac"
	"crypto/sha256"
	"encoding/binary"
	"math"
	"slices"
	"testing"

	"wristband/api"
	"wristband/issuer"
)

// Another reading of the chapter, which leans on no layer.

// answer of a call; one that isn't handed an engine has none.
type answer struct {
	g api.Engine
	s api.Issuer
	b []byte
	e api.Errno
}

// otherRightSeed by its length alone.
func otherRightSeed(seed []byte) bool { return len(seed) != 0 && len(seed) < 33 }

// otherRight holds each two holders, and each two that are gone, together, not just neighbours.
func otherRight(s api.Issuer) bool {
	for i, h := range s.Holders {
		if h.Epoch == 0 || !otherRightSeed(h.Seed) {
			return false
		}
		for _, ahead := range s.Holders[:i] {
			if ahead.Ticket >= h.Ticket {
				return false
			}
		}
	}
	for i, g := range s.Gone {
		for _, ahead := range s.Gone[:i] {
			if ahead.Ticket > g.Ticket || ahead.Ticket == g.Ticket && ahead.Epoch >= g.Epoch {
				return false
			}
		}
	}
	return len(s.Holders) < 65 && len(s.Gone) < 65
}

// otherRightEngine holds each two terms together.
func otherRightEngine(g api.Engine) bool {
	for i, t := range g.Terms {
		for _, ahead := range g.Terms[:i] {
			if bytes.Equal(ahead.Key, t.Key) && bytes.Equal(ahead.Msg, t.Msg) {
				return false
			}
		}
	}
	return g.Kind == 1 && len(g.Terms) == 0 || g.Kind == 2
}

// otherSealed: a text with its tag behind it, and the engine behind that; Concrete tags are by the library.
func otherSealed(g api.Engine, key, text []byte) (api.Engine, []byte) {
	g = deepEngine(g)
	if g.Kind == 1 {
		h := otherhmac.New(sha256.New, key)
		h.Write(text)
		return g, slices.Concat(text, h.Sum(nil)[:8])
	}
	place := len(g.Terms)
	for k, t := range g.Terms {
		if bytes.Equal(t.Key, key) && bytes.Equal(t.Msg, text) {
			place = k
		}
	}
	if place == len(g.Terms) {
		g.Terms = append(g.Terms, api.Term{Key: slices.Clone(key), Msg: slices.Clone(text)})
	}
	return g, binary.BigEndian.AppendUint64(slices.Clone(text), uint64(place+1))
}

// recordText: the bytes of an activation, without a tag.
func recordText(h api.Holder) []byte {
	b := binary.BigEndian.AppendUint64([]byte{65}, h.Ticket)
	b = binary.BigEndian.AppendUint64(b, h.Epoch)
	b = binary.BigEndian.AppendUint64(b, h.Device)
	return append(append(b, byte(len(h.Seed))), h.Seed...)
}

// bundleText: the bytes of an issuer's bundle of its Version, without a tag.
func bundleText(s api.Issuer) []byte {
	b := binary.BigEndian.AppendUint64([]byte{66}, s.Version)
	b = append(b, byte(len(s.Holders)))
	for _, h := range s.Holders {
		b = binary.BigEndian.AppendUint64(b, h.Ticket)
		b = binary.BigEndian.AppendUint64(b, h.Epoch)
		b = append(append(b, byte(len(h.Seed))), h.Seed...)
	}
	b = append(b, byte(len(s.Gone)))
	for _, g := range s.Gone {
		b = binary.BigEndian.AppendUint64(b, g.Ticket)
		b = binary.BigEndian.AppendUint64(b, g.Epoch)
	}
	return b
}

// otherPlace of the first holder of a ticket; -1, if there is none.
func otherPlace(s api.Issuer, ticket uint64) int {
	for k, h := range s.Holders {
		if h.Ticket == ticket {
			return k
		}
	}
	return -1
}

func otherIssue(g api.Engine, s api.Issuer, ticket, device uint64, seed []byte) answer {
	switch {
	case !otherRight(s) || !otherRightEngine(g) || !otherRightSeed(seed):
		return answer{g: g, s: s, e: api.ErrArg}
	case otherPlace(s, ticket) >= 0:
		return answer{g: g, s: s, e: api.ErrSeen}
	case len(s.Holders) == 64:
		return answer{g: g, s: s, e: api.ErrFull}
	}
	one := api.Holder{Ticket: ticket, Epoch: 1, Device: device, Seed: seed}
	var less, greater []api.Holder
	for _, h := range s.Holders {
		if h.Ticket < ticket {
			less = append(less, h)
		} else {
			greater = append(greater, h)
		}
	}
	s.Holders = slices.Concat(less, []api.Holder{one}, greater)
	g, b := otherSealed(g, s.Key, recordText(one))
	return answer{g: g, s: s, b: b}
}

func otherRebind(g api.Engine, s api.Issuer, ticket, device uint64, seed []byte) answer {
	at := otherPlace(s, ticket)
	switch {
	case !otherRight(s) || !otherRightEngine(g) || !otherRightSeed(seed):
		return answer{g: g, s: s, e: api.ErrArg}
	case at < 0:
		return answer{g: g, s: s, e: api.ErrNone}
	case s.Holders[at].Epoch == math.MaxUint64:
		return answer{g: g, s: s, e: api.ErrMost}
	}
	s.Holders = slices.Clone(s.Holders)
	h := &s.Holders[at]
	h.Epoch, h.Device, h.Seed = h.Epoch+1, device, seed
	g, b := otherSealed(g, s.Key, recordText(*h))
	return answer{g: g, s: s, b: b}
}

func otherRevoke(s api.Issuer, ticket uint64) answer {
	at := otherPlace(s, ticket)
	switch {
	case !otherRight(s):
		return answer{s: s, e: api.ErrArg}
	case at < 0:
		return answer{s: s, e: api.ErrNone}
	}
	one := api.Gone{Ticket: ticket, Epoch: s.Holders[at].Epoch}
	var less, greater []api.Gone
	for _, g := range s.Gone {
		switch {
		case g == one:
			return answer{s: s}
		case g.Ticket < one.Ticket || g.Ticket == one.Ticket && g.Epoch < one.Epoch:
			less = append(less, g)
		default:
			greater = append(greater, g)
		}
	}
	if len(s.Gone) == 64 {
		return answer{s: s, e: api.ErrFull}
	}
	s.Gone = slices.Concat(less, []api.Gone{one}, greater)
	return answer{s: s}
}

func otherBuild(g api.Engine, s api.Issuer) answer {
	switch {
	case !otherRight(s) || !otherRightEngine(g):
		return answer{g: g, s: s, e: api.ErrArg}
	case s.Version == math.MaxUint64:
		return answer{g: g, s: s, e: api.ErrMost}
	}
	s.Version++
	g, b := otherSealed(g, s.Key, bundleText(s))
	return answer{g: g, s: s, b: b}
}

// The calls as answers.

func issue(g api.Engine, s api.Issuer, ticket, device uint64, seed []byte) answer {
	g, s, b, e := issuer.Issue(g, s, ticket, device, seed)
	return answer{g, s, b, e}
}

func rebind(g api.Engine, s api.Issuer, ticket, device uint64, seed []byte) answer {
	g, s, b, e := issuer.Rebind(g, s, ticket, device, seed)
	return answer{g, s, b, e}
}

func revoke(s api.Issuer, ticket uint64) answer {
	s, e := issuer.Revoke(s, ticket)
	return answer{s: s, e: e}
}

func build(g api.Engine, s api.Issuer) answer {
	g, s, b, e := issuer.Build(g, s)
	return answer{g, s, b, e}
}

// What they are held against, and copies.

// deep copy of an issuer.
func deep(s api.Issuer) api.Issuer {
	out := api.Issuer{Key: slices.Clone(s.Key), Version: s.Version, Gone: slices.Clone(s.Gone)}
	for _, h := range s.Holders {
		h.Seed = slices.Clone(h.Seed)
		out.Holders = append(out.Holders, h)
	}
	return out
}

// deepEngine: a deep copy of an engine.
func deepEngine(g api.Engine) api.Engine {
	out := api.Engine{Kind: g.Kind}
	for _, t := range g.Terms {
		out.Terms = append(out.Terms, api.Term{Key: slices.Clone(t.Key), Msg: slices.Clone(t.Msg)})
	}
	return out
}

// deepAnswer: a deep copy of an answer.
func deepAnswer(a answer) answer {
	return answer{g: deepEngine(a.g), s: deep(a.s), b: slices.Clone(a.b), e: a.e}
}

func sameHolder(a, b api.Holder) bool {
	return a.Ticket == b.Ticket && a.Epoch == b.Epoch && a.Device == b.Device && bytes.Equal(a.Seed, b.Seed)
}

// same issuers? A list may be nil or empty alike.
func same(a, b api.Issuer) bool {
	return bytes.Equal(a.Key, b.Key) && a.Version == b.Version && slices.EqualFunc(a.Holders, b.Holders, sameHolder) && slices.Equal(a.Gone, b.Gone)
}

// sameEngine, a list that is nil being an empty one?
func sameEngine(a, b api.Engine) bool {
	return a.Kind == b.Kind && slices.EqualFunc(a.Terms, b.Terms, func(x, y api.Term) bool {
		return bytes.Equal(x.Key, y.Key) && bytes.Equal(x.Msg, y.Msg)
	})
}

func sameAnswer(a, b answer) bool {
	return sameEngine(a.g, b.g) && same(a.s, b.s) && bytes.Equal(a.b, b.b) && a.e == b.e
}

// checkIssue: Issue answers what the other reading does, and what is handed in stays; it tells the answer.
func checkIssue(t *testing.T, g api.Engine, s api.Issuer, ticket, device uint64, seed []byte) answer {
	t.Helper()
	was, sWas, seedWas := deepEngine(g), deep(s), slices.Clone(seed)
	got, want := issue(g, s, ticket, device, seed), otherIssue(was, sWas, ticket, device, seedWas)
	if !sameAnswer(got, want) {
		t.Fatalf("Issue(%v, %v, %d, %d, %q) = %v, want %v", g, s, ticket, device, seed, got, want)
	}
	if !sameEngine(g, was) || !same(s, sWas) || !bytes.Equal(seed, seedWas) {
		t.Fatalf("Issue(%v, %v, .., %q) left %v, %v, %q", was, sWas, seedWas, g, s, seed)
	}
	return got
}

// checkRebind: so does Rebind.
func checkRebind(t *testing.T, g api.Engine, s api.Issuer, ticket, device uint64, seed []byte) answer {
	t.Helper()
	was, sWas, seedWas := deepEngine(g), deep(s), slices.Clone(seed)
	got, want := rebind(g, s, ticket, device, seed), otherRebind(was, sWas, ticket, device, seedWas)
	if !sameAnswer(got, want) {
		t.Fatalf("Rebind(%v, %v, %d, %d, %q) = %v, want %v", g, s, ticket, device, seed, got, want)
	}
	if !sameEngine(g, was) || !same(s, sWas) || !bytes.Equal(seed, seedWas) {
		t.Fatalf("Rebind(%v, %v, .., %q) left %v, %v, %q", was, sWas, seedWas, g, s, seed)
	}
	return got
}

// checkRevoke: so does Revoke.
func checkRevoke(t *testing.T, s api.Issuer, ticket uint64) answer {
	t.Helper()
	was := deep(s)
	got, want := revoke(s, ticket), otherRevoke(was, ticket)
	if !sameAnswer(got, want) {
		t.Fatalf("Revoke(%v, %d) = %v, want %v", s, ticket, got, want)
	}
	if !same(s, was) {
		t.Fatalf("Revoke(%v, ..) left %v", was, s)
	}
	return got
}

// checkBuild: so does Build.
func checkBuild(t *testing.T, g api.Engine, s api.Issuer) answer {
	t.Helper()
	was, sWas := deepEngine(g), deep(s)
	got, want := build(g, s), otherBuild(was, sWas)
	if !sameAnswer(got, want) {
		t.Fatalf("Build(%v, %v) = %v, want %v", g, s, got, want)
	}
	if !sameEngine(g, was) || !same(s, sWas) {
		t.Fatalf("Build(%v, %v) left %v, %v", was, sWas, g, s)
	}
	return got
}

// checkCode: the answer has just this error.
func checkCode(t *testing.T, a answer, e api.Errno) {
	t.Helper()
	if a.e != e {
		t.Fatalf("the answer %v, want %v", a, e)
	}
}
