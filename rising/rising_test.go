package rising

import (
	"cmp"
	"math"
	"slices"
	"testing"
)

func TestAll(t *testing.T) {
	for _, l := range [][]int{nil, {}, {3}, {1, 2}, {-5, 0, 5}, {math.MinInt, math.MaxInt}, {1, 2, 3, 4, 5, 9}} {
		if !All(l, cmp.Compare) {
			t.Errorf("All(%v) = false", l)
		}
	}
	for _, l := range [][]int{{1, 1}, {2, 1}, {math.MaxInt, math.MinInt}, {1, 2, 2}, {1, 1, 2}, {2, 1, 3}, {1, 3, 2}, {1, 2, 1}, {1, 2, 3, 4, 5, 5}} {
		if All(l, cmp.Compare) {
			t.Errorf("All(%v) = true", l)
		}
	}
}

// TestAllOfEachPlace: wherever the one place is that doesn't rise.
func TestAllOfEachPlace(t *testing.T) {
	row := make([]int, 100)
	for k := range row {
		row[k] = k
	}
	for k := range row[1:] {
		l := slices.Clone(row)
		l[k+1] = l[k]
		if !All(row, cmp.Compare) || All(l, cmp.Compare) {
			t.Errorf("a row and one that is alike at %d: %v, %v", k, All(row, cmp.Compare), All(l, cmp.Compare))
		}
	}
}

// TestAllByItsOrder: another order says otherwise, by whatever numbers it tells.
func TestAllByItsOrder(t *testing.T) {
	falls := func(a, b string) int { return 7 * (len(b) - len(a)) }
	if !All([]string{"abc", "zz", ""}, falls) {
		t.Error("a row that rises by its order does not")
	}
	for _, l := range [][]string{{"", "a"}, {"ab", "cd"}} {
		if All(l, falls) {
			t.Errorf("%q rises", l)
		}
	}
}
