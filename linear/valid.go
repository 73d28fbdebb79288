package linear

import "tinplate/api"

// A bound tells of a number whether it is allowed.
type bound func(x int) bool

func atLeast(low int) bound { return func(x int) bool { return x >= low } }

func atMost(high int) bound { return func(x int) bool { return x <= high } }

// within allows the numbers whose absolute value is at most limit; it does not compute that of the least int.
func within(limit int) bound { return func(x int) bool { return -limit <= x && x <= limit } }

func (b bound) all(list []int) bool {
	for _, x := range list {
		if !b(x) {
			return false
		}
	}
	return true
}

func validWidth(n int) bool { return 1 <= n && n <= api.MaxWidth }

func validRows(rows [][]int, n int) bool {
	if !validWidth(n) || len(rows) > api.MaxRows {
		return false
	}
	entry := within(api.MaxEntry)
	for _, row := range rows {
		if len(row) != n || !entry.all(row) {
			return false
		}
	}
	return true
}

func validCosts(v []int, n int) bool {
	return len(v) == n && within(api.MaxCost).all(v)
}

func validEquations(a [][]int, b []int, n int) bool {
	return validRows(a, n) && validCosts(b, len(a))
}

func validProgram(p api.Program) bool {
	n := len(p.C)
	return validEquations(p.A, p.B, n) && validCosts(p.C, n)
}

// proper: see the chapter. Sums of MaxWidth or MaxRows proper numbers times entries or costs fit into an int.
func proper(x api.Point, n int) bool {
	return len(x.Num) == n && 1 <= x.Den && x.Den <= api.MaxDen && within(api.MaxDen).all(x.Num)
}
