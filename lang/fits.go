package lang

import (
	"slices"

	"tinplate/api"
)

func areVectors(list [][]int, count, width int) bool {
	wrong := func(v []int) bool { return !isVector(v, width) }
	return len(list) == count && !slices.ContainsFunc(list, wrong)
}

func isVector(v []int, width int) bool {
	outside := func(x int) bool { return x < -api.MaxCost || x > api.MaxCost }
	return len(v) == width && !slices.ContainsFunc(v, outside)
}

// isNormal reports whether rows are vectors in Hermite normal form.
func isNormal(rows [][]int, width int) bool {
	last := -1
	for i, row := range rows {
		if !isVector(row, width) {
			return false
		}
		c := pivotOf(row)
		if c == width || c <= last || row[c] < 0 {
			return false
		}
		for _, earlier := range rows[:i] {
			if earlier[c] < 0 || earlier[c] >= row[c] {
				return false
			}
		}
		last = c
	}
	return true
}

// pivotOf returns the column of the first number that is not 0: len(v) if there is none.
func pivotOf(v []int) int {
	c := 0
	for c < len(v) && v[c] == 0 {
		c++
	}
	return c
}

func difference(v, w []int) []int {
	list := slices.Clone(v)
	subtract(list, 1, w)
	return list
}

// subtract changes v to v - k*w.
func subtract(v []int, k int, w []int) {
	for j, x := range w {
		v[j] -= k * x
	}
}

// spans reports whether v is in the lattice of rows in Hermite normal form. It changes v.
func spans(rows [][]int, v []int) bool {
	for _, row := range rows {
		c := pivotOf(row)
		subtract(v, v[c]/row[c], row)
	}
	return pivotOf(v) == len(v)
}
