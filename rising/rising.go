// Package rising tells of lists whether they rise.
package rising

// All of a list, by an order? Each is greater than the one ahead then.
func All[T any](l []T, by func(a, b T) int) bool {
	for k := 1; k < len(l); k++ {
		if by(l[k-1], l[k]) >= 0 {
			return false
		}
	}
	return true
}
