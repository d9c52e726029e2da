// Package seal puts tags behind bytes, and asks of bytes whether their tag is behind them. All that goes wrong does so at one step.
package seal

import (
	"slices"

	"wristband/api"
	"wristband/mac"
)

// Put the tag of bytes behind them: the engine behind it, and both.
func Put(g api.Engine, key, b []byte) (api.Engine, []byte, error) {
	behind, tag, e := mac.Tag(g, key, b)
	if e != api.OK {
		return behind, nil, Fault(e)
	}
	return behind, slices.Concat(b, tag), nil
}

// Check that behind the first bytes of b, so many as end says, there is just their tag.
func Check(g api.Engine, key, b []byte, end int) error {
	whole := end + api.TagSize
	switch {
	case len(b) < whole:
		return Fault(api.ErrShort)
	case len(b) > whole:
		return Fault(api.ErrLong)
	case !mac.Fits(g, key, b[:end], b[end:]):
		return Fault(api.ErrSum)
	}
	return nil
}

// Fault of an error, at the step of seals.
func Fault(e api.Errno) error {
	return &api.Fault{Step: api.StepSeal, Err: e}
}
