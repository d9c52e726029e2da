package window_test

import (
	"math"
	"math/big"
	"math/rand/v2"
	"slices"
	"testing"

	"wristband/window"
)

// The document's numbers, and the last clock.
const (
	period  = 30
	maxSkew = 10
	top     = math.MaxUint64
)

// skews that may be.
func skews() []int {
	l := []int{}
	for skew := range maxSkew + 1 {
		l = append(l, skew)
	}
	return l
}

// wrongSkews: next to those that may be, and those that would be one of them in fewer bits.
func wrongSkews() []int {
	return []int{
		-1, -2, -9, -10, -11, -256, 11, 12, 100, 255, 256, 256 + 5, 1<<16 + 5, 1 << 32, 1<<32 + 5, -1 << 32, -1<<32 + 5,
		math.MinInt32, math.MaxInt32, math.MinInt, math.MinInt + 1, math.MinInt + 5, math.MaxInt, math.MaxInt - 1,
	}
}

// number by chance, of any length.
func number(r *rand.Rand) uint64 {
	return r.Uint64() >> r.IntN(65)
}

// clocks: the first ones and the last, all about a whole number of periods, about powers of two, and by chance.
func clocks() []uint64 {
	l := []uint64{}
	for k := range uint64(700) {
		l = append(l, k, top-k)
	}
	for k := range 64 {
		for d := range uint64(70) {
			l = append(l, uint64(1)<<k+d, uint64(1)<<k-d)
		}
	}
	r := rand.New(rand.NewPCG(2100, 2101))
	for range 2000 {
		begin := number(r) / period * period
		l = append(l, begin, begin-1, begin+1, begin+period-1, number(r))
	}
	return l
}

// otherCounter: how often a period's seconds go into a clock, told by numbers of any length.
func otherCounter(clock uint64) *big.Int {
	n := new(big.Int).SetUint64(clock)
	return n.Sub(n, new(big.Int).Mod(n, big.NewInt(period))).Div(n, big.NewInt(period))
}

// otherBounds by numbers of any length, that can be below 0, and above 2^64 - 1.
func otherBounds(clock uint64, skew int) (uint64, uint64) {
	least := otherCounter(clock)
	greatest := new(big.Int).Add(least, big.NewInt(int64(skew)))
	least.Sub(least, big.NewInt(int64(skew)))
	if least.Sign() < 0 {
		least.SetInt64(0)
	}
	if last := new(big.Int).SetUint64(top); greatest.Cmp(last) > 0 {
		greatest = last
	}
	return least.Uint64(), greatest.Uint64()
}

// otherWindow: its counters, one by one from the clock's own on to either side.
func otherWindow(clock uint64, skew int) []uint64 {
	at := otherCounter(clock).Uint64()
	l := []uint64{at}
	for k := 1; k <= skew; k++ {
		if uint64(k) <= at {
			l = append(l, at-uint64(k))
		}
		if uint64(k) <= top-at {
			l = append(l, at+uint64(k))
		}
	}
	slices.Sort(l)
	return l
}

// near counters of a clock: its own, those about its window's ends, and those far off.
func near(clock uint64) []uint64 {
	at := otherCounter(clock).Uint64()
	l := []uint64{0, 1, top, top - 1, 1 << 63, clock, clock + 1, at ^ 1<<32, at ^ 1<<63}
	for k := range uint64(25) {
		l = append(l, at-k, at+k)
	}
	return l
}

// checkBounds of a window.
func checkBounds(t *testing.T, clock uint64, skew int, least, greatest uint64) {
	t.Helper()
	if a, b := window.Bounds(clock, skew); a != least || b != greatest {
		t.Fatalf("Bounds(%d, %d) = %d, %d, want %d, %d", clock, skew, a, b, least, greatest)
	}
}

// P21.1

func TestMay(t *testing.T) {
	for _, skew := range skews() {
		if !window.May(skew) {
			t.Errorf("May(%d) = false", skew)
		}
	}
	for _, skew := range wrongSkews() {
		if window.May(skew) {
			t.Errorf("May(%d) = true", skew)
		}
	}
	many := 0
	for skew := -70000; skew <= 70000; skew++ {
		if window.May(skew) {
			many++
		}
	}
	if many != 11 {
		t.Errorf("%d skews may be, want 11", many)
	}
}

func TestCounter(t *testing.T) {
	for _, c := range []struct{ clock, want uint64 }{
		{0, 0}, {1, 0}, {29, 0}, {30, 1}, {31, 1}, {59, 1}, {60, 2}, {299, 9}, {300, 10}, {310, 10}, {329, 10}, {330, 11},
		{1<<32 - 1, 143165576}, {1 << 32, 143165576}, {1 << 63, 307445734561825860},
		{top, 614891469123651720}, {top - 15, 614891469123651720}, {top - 16, 614891469123651719},
	} {
		if got := window.Counter(c.clock); got != c.want {
			t.Errorf("Counter(%d) = %d, want %d", c.clock, got, c.want)
		}
	}
	for _, clock := range clocks() {
		if got := window.Counter(clock); otherCounter(clock).Cmp(new(big.Int).SetUint64(got)) != 0 {
			t.Fatalf("Counter(%d) = %d, want %v", clock, got, otherCounter(clock))
		}
	}
}

// TestCounterInSteps: one more after each period, whichever second it is that they are counted from.
func TestCounterInSteps(t *testing.T) {
	for _, begin := range []uint64{0, 1 << 32 / period * period, 1 << 63 / period * period, (top/period - 700) * period} {
		want := begin / period
		for k := range uint64(700 * period) {
			if k > 0 && k%period == 0 {
				want++
			}
			if got := window.Counter(begin + k); got != want {
				t.Fatalf("Counter(%d) = %d, want %d", begin+k, got, want)
			}
		}
	}
}

func TestBounds(t *testing.T) {
	for _, c := range []struct {
		clock           uint64
		skew            int
		least, greatest uint64
	}{
		// The document's own.
		{299, 2, 7, 11},
		{0, 0, 0, 0}, {0, 1, 0, 1}, {0, 10, 0, 10}, {29, 1, 0, 1}, {30, 0, 1, 1}, {30, 1, 0, 2}, {59, 1, 0, 2}, {60, 1, 1, 3},
		{300, 2, 8, 12}, {310, 0, 10, 10}, {310, 10, 0, 20}, {299, 10, 0, 19}, {299, 9, 0, 18}, {329, 10, 0, 20}, {330, 10, 1, 21},
		{top, 0, 614891469123651720, 614891469123651720}, {top, 10, 614891469123651710, 614891469123651730}, {top - 16, 1, 614891469123651718, 614891469123651720},
	} {
		checkBounds(t, c.clock, c.skew, c.least, c.greatest)
	}
}

func TestBoundsAlike(t *testing.T) {
	for _, clock := range clocks() {
		for _, skew := range skews() {
			least, greatest := otherBounds(clock, skew)
			checkBounds(t, clock, skew, least, greatest)
			l := otherWindow(clock, skew)
			checkBounds(t, clock, skew, l[0], l[len(l)-1])
		}
	}
}

func TestBoundsByAWrongSkew(t *testing.T) {
	for _, clock := range clocks() {
		for _, skew := range wrongSkews() {
			checkBounds(t, clock, skew, 0, 0)
		}
	}
}

func TestIn(t *testing.T) {
	for _, c := range []struct {
		counter, clock uint64
		skew           int
		want           bool
	}{
		{6, 299, 2, false}, {7, 299, 2, true}, {9, 299, 2, true}, {11, 299, 2, true}, {12, 299, 2, false},
		{10, 310, 0, true}, {9, 310, 0, false}, {11, 310, 0, false}, {0, 0, 0, true}, {1, 0, 0, false}, {1, 0, 1, true},
		{0, 329, 10, true}, {0, 330, 10, false}, {10, 0, 10, true}, {11, 0, 10, false},
		// Those that would be below 0 aren't the last ones.
		{top, 0, 1, false}, {top, 0, 10, false}, {top - 8, 30, 10, false}, {top, top, 10, false}, {0, top, 10, false},
		{614891469123651720, top, 0, true}, {614891469123651730, top, 10, true}, {614891469123651731, top, 10, false}, {614891469123651709, top, 10, false},
		// The counter 0, of a window that there isn't.
		{0, 0, -1, false}, {0, 0, 11, false}, {10, 310, -1, false}, {10, 310, 11, false}, {0, 310, 12, false},
	} {
		if got := window.In(c.counter, c.clock, c.skew); got != c.want {
			t.Errorf("In(%d, %d, %d) = %v", c.counter, c.clock, c.skew, got)
		}
	}
}

func TestInAlike(t *testing.T) {
	for _, clock := range clocks() {
		counters := near(clock)
		for _, skew := range skews() {
			l := otherWindow(clock, skew)
			for _, counter := range counters {
				_, want := slices.BinarySearch(l, counter)
				if window.In(counter, clock, skew) != want {
					t.Fatalf("In(%d, %d, %d) = %v", counter, clock, skew, !want)
				}
			}
		}
	}
}

func TestInByAWrongSkew(t *testing.T) {
	for _, clock := range clocks() {
		counters := near(clock)
		for _, skew := range wrongSkews() {
			for _, counter := range counters {
				if window.In(counter, clock, skew) {
					t.Fatalf("In(%d, %d, %d) = true", counter, clock, skew)
				}
			}
		}
	}
}

// TestInOfManyCounters: just so many counters are in a window as there are from its least to its greatest.
func TestInOfManyCounters(t *testing.T) {
	for clock := range uint64(700) {
		for _, skew := range skews() {
			many := 0
			for counter := range uint64(60) {
				if window.In(counter, clock, skew) {
					many++
				}
			}
			if want := skew + 1 + min(skew, int(clock/period)); many != want {
				t.Errorf("%d counters are in the window of %d, by %d, want %d", many, clock, skew, want)
			}
		}
	}
}

// P21.2

// TestOwnCounter: that of a clock is in its window, whichever skew may be.
func TestOwnCounter(t *testing.T) {
	for _, clock := range clocks() {
		for _, skew := range skews() {
			if !window.In(window.Counter(clock), clock, skew) {
				t.Fatalf("the counter of %d isn't in its window, by %d", clock, skew)
			}
		}
	}
}

// TestCounterOfAnotherClock: a device's, that is a gate's clock so far away.
func TestCounterOfAnotherClock(t *testing.T) {
	for _, clock := range clocks() {
		for _, skew := range skews() {
			far := uint64(period * skew)
			for _, away := range []uint64{0, min(far, 1), far / 2, far - min(far, 1), far} {
				if other := clock + away; other >= clock && !window.In(window.Counter(other), clock, skew) {
					t.Fatalf("the counter of %d isn't in the window of %d, by %d", other, clock, skew)
				}
				if other := clock - away; other <= clock && !window.In(window.Counter(other), clock, skew) {
					t.Fatalf("the counter of %d isn't in the window of %d, by %d", other, clock, skew)
				}
			}
		}
	}
}

// TestCounterOfEachOtherClock: wherever in a period either clock stands, and just how far away a counter may have come from.
func TestCounterOfEachOtherClock(t *testing.T) {
	for _, begin := range []uint64{0, 15, 1 << 40, top - 700} {
		for a := range uint64(350) {
			for b := range uint64(700) {
				device, clock := begin+b, begin+a
				apart := max(a, b) - min(a, b)
				for _, skew := range skews() {
					in := window.In(window.Counter(device), clock, skew)
					if apart <= period*uint64(skew) && !in {
						t.Fatalf("the counter of %d isn't in the window of %d, by %d", device, clock, skew)
					}
					// A whole period more is another counter for sure.
					if apart >= period*uint64(skew+1) && in {
						t.Fatalf("the counter of %d is in the window of %d, by %d", device, clock, skew)
					}
				}
			}
		}
	}
}

// TestBeginningNeverFalls: while a clock goes on, by one second or by many.
func TestBeginningNeverFalls(t *testing.T) {
	l := clocks()
	slices.Sort(l)
	for _, skew := range append(skews(), wrongSkews()...) {
		last := uint64(0)
		for _, clock := range l {
			least, greatest := window.Bounds(clock, skew)
			if least < last || greatest < least {
				t.Fatalf("the window of %d, by %d, is from %d to %d, behind one from %d on", clock, skew, least, greatest, last)
			}
			last = least
		}
	}
	for _, begin := range []uint64{0, 1<<32 - 9000, 1<<63 - 9000, top - 20000} {
		for _, skew := range skews() {
			last := uint64(0)
			for k := range uint64(20001) {
				least, _ := window.Bounds(begin+k, skew)
				if least < last {
					t.Fatalf("the window of %d, by %d, begins at %d, behind one at %d", begin+k, skew, least, last)
				}
				last = least
			}
		}
	}
}
