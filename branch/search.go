package branch

import (
	"iter"

	"tinplate/api"
)

// feasible iterates over the feasible vectors in lexicographic order, each with its cost. A vector is good until the
// next one only. (There are at most 8^5 vectors in a box, so that all of them are looked at.)
func feasible(w api.Whole) iter.Seq2[[]int, int] {
	return func(yield func([]int, int) bool) {
		x := make([]int, len(w.Upper))
		for more := true; more; more = advance(x, w.Upper) {
			if satisfies(w, x) && !yield(x, dot(w.C, x)) {
				return
			}
		}
	}
}

// advance changes x to the next vector in lexicographic order, and reports false after the last one.
func advance(x, upper []int) bool {
	for j := len(x) - 1; j >= 0; j-- {
		if x[j] < upper[j] {
			x[j]++
			return true
		}
		x[j] = 0
	}
	return false
}

func satisfies(w api.Whole, x []int) bool {
	for i, row := range w.A {
		if dot(row, x) < w.B[i] {
			return false
		}
	}
	return true
}

func dot(a, b []int) int {
	sum := 0
	for j, x := range a {
		sum += x * b[j]
	}
	return sum
}
