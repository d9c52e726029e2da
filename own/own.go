// Package own copies things into memory of their own, since what was handed in may be changed by its owner.
package own

import (
	"bytes"
	"slices"

	"wristband/api"
)

// Engine that shares nothing with the one handed in.
func Engine(g api.Engine) api.Engine {
	terms := make([]api.Term, len(g.Terms))
	for i, t := range g.Terms {
		terms[i] = api.Term{Key: bytes.Clone(t.Key), Msg: bytes.Clone(t.Msg)}
	}
	return api.Engine{Kind: g.Kind, Terms: terms}
}

// Disk that shares nothing with the one handed in.
func Disk(d api.Disk) api.Disk {
	for k, a := range d.Areas {
		d.Areas[k].Bytes = bytes.Clone(a.Bytes)
	}
	return d
}

// Cache that shares nothing with the one handed in.
func Cache(c api.Cache) api.Cache {
	c.Seen = slices.Clone(c.Seen)
	return c
}

// Bundle that shares nothing with the one handed in.
func Bundle(x api.Bundle) api.Bundle {
	x.Entries = slices.Clone(x.Entries)
	for k, e := range x.Entries {
		x.Entries[k].Seed = bytes.Clone(e.Seed)
	}
	x.Gone = slices.Clone(x.Gone)
	return x
}

// Memory that shares nothing with the one handed in.
func Memory(m api.Memory) api.Memory {
	m.Bundle, m.Cache = Bundle(m.Bundle), Cache(m.Cache)
	return m
}

// Shelf that shares nothing with the one handed in.
func Shelf(s api.Shelf) api.Shelf {
	s.Disk, s.Memory = Disk(s.Disk), Memory(s.Memory)
	return s
}

// Issuer that shares nothing with the one handed in.
func Issuer(s api.Issuer) api.Issuer {
	s.Key = bytes.Clone(s.Key)
	s.Holders = slices.Clone(s.Holders)
	for k, h := range s.Holders {
		s.Holders[k].Seed = bytes.Clone(h.Seed)
	}
	s.Gone = slices.Clone(s.Gone)
	return s
}
