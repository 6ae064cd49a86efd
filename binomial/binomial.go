// Package binomial: binomials, which several layers reckon with alike.
package binomial

// Of a number n, which may be below 0, and k, from 0 on: n times n - 1 and so on, k numbers, over 1 times 2 and so on up to k.
func Of(n, k int) int {
	value := 1
	for i := range k {
		// Each time it is the binomial of n and i + 1, so nothing is left over.
		value = value * (n - i) / (i + 1)
	}
	return value
}
