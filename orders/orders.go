// Package orders looks at the order of lists.
package orders

// Ascending reports whether each element of a list is greater than the one before it.
func Ascending[T any](l []T, compare func(a, b T) int) bool {
	for i := 1; i < len(l); i++ {
		if compare(l[i-1], l[i]) >= 0 {
			return false
		}
	}
	return true
}
