// Package linear is layer 1: exact linear algebra over the integers, and linear programs. Every refusal comes with a
// certificate, which a checker of its own reads.
package linear

import "tinplate/api"

// Hermite returns the basis in Hermite normal form of the lattice of the rows, which have the width n.
func Hermite(rows [][]int, n int) ([][]int, api.Errno) {
	if !validRows(rows, n) {
		return nil, api.ErrArg
	}
	return basisOf(rows), api.OK
}

// Reduce returns the vector that differs from v by a vector of the lattice of the rows, and that has a number from 0
// to the pivot less 1 in the column of each pivot of Hermite.
func Reduce(rows [][]int, v []int) ([]int, api.Errno) {
	if !validRows(rows, len(v)) || !validCosts(v, len(v)) {
		return nil, api.ErrArg
	}
	return basisOf(rows).reduce(v), api.OK
}

// Member reports whether v is in the lattice of the rows.
func Member(rows [][]int, v []int) (bool, api.Errno) {
	rest, err := Reduce(rows, v)
	return err == api.OK && pivotOf(rest) == len(rest), err
}

// Kernel returns the basis in Hermite normal form of the lattice of all integer vectors x with a*x = 0, for rows of
// width n.
func Kernel(a [][]int, n int) ([][]int, api.Errno) {
	if !validRows(a, n) {
		return nil, api.ErrArg
	}
	var kernel [][]int
	for _, v := range graph(a, n) {
		if pivotOf(v) >= len(a) {
			kernel = append(kernel, v[len(a):])
		}
	}
	return kernel, api.OK
}

// Solve returns the integer vector x with a*x = b that is reduced by the kernel: ErrPlan if there is none.
func Solve(a [][]int, b []int, n int) ([]int, api.Errno) {
	if !validEquations(a, b, n) {
		return nil, api.ErrArg
	}
	// Adding vectors a*x, x to -b, 0 until the first part is 0 leaves x; reduce reduces it by the kernel then.
	start := make([]int, len(a)+n)
	addTimes(start, -1, b)
	rest := graph(a, n).reduce(start)
	if pivotOf(rest) < len(a) {
		return nil, api.ErrPlan
	}
	return rest[len(a):], api.OK
}

// Refute returns a point of which Refutes is true: ErrPlan if there is an integer vector x with a*x = b.
func Refute(a [][]int, b []int, n int) (api.Point, api.Errno) {
	if !validEquations(a, b, n) {
		return api.Point{}, api.ErrArg
	}
	lattice := basisOf(columns(a, n))
	rest := lattice.reduce(b)
	if pivotOf(rest) == len(rest) {
		return api.Point{}, api.ErrPlan
	}
	return lattice.refutation(rest), api.OK
}

// Refutes reports whether y*a is an integer vector and y*b is not an integer: then no integer vector x has a*x = b.
func Refutes(a [][]int, b []int, n int, y api.Point) bool {
	if !validEquations(a, b, n) || !proper(y, len(a)) {
		return false
	}
	var whole bound = func(x int) bool { return x%y.Den == 0 }
	return whole.all(columnSums(a, y.Num, n)) && !whole(dot(y.Num, b))
}

// An end is one of the ends of a program that is asked for: the error if the program comes to that end, for each of
// the ends, and the function that takes what is asked for out of the last tableau.
type end struct {
	errs [3]api.Errno
	take func(t *tableau) api.Point
}

func (e end) of(p api.Program) (api.Point, api.Errno) {
	if !validProgram(p) {
		return api.Point{}, api.ErrArg
	}
	t := newTableau(p)
	if err := e.errs[t.solve()]; err != api.OK {
		return api.Point{}, err
	}
	x := e.take(t)
	return lowest(x.Num, x.Den), api.OK
}

// Minimum returns the lexicographically least of the feasible points of minimum cost: ErrPlan if p is not feasible,
// ErrBound if it is unbounded.
func Minimum(p api.Program) (api.Point, api.Errno) {
	return end{
		errs: [3]api.Errno{contradictory: api.ErrPlan, unbounded: api.ErrBound},
		take: (*tableau).point,
	}.of(p)
}

// Dual returns a point y of which Bounds is true, and for which y*B is the minimum of p. Errors as Minimum.
func Dual(p api.Program) (api.Point, api.Errno) {
	return end{
		errs: [3]api.Errno{contradictory: api.ErrPlan, unbounded: api.ErrBound},
		take: func(t *tableau) api.Point { return t.prices(t.costs()) },
	}.of(p)
}

// Farkas returns a point of which Denies is true: ErrPlan if p is feasible.
func Farkas(p api.Program) (api.Point, api.Errno) {
	return end{
		errs: [3]api.Errno{optimal: api.ErrPlan, unbounded: api.ErrPlan},
		take: func(t *tableau) api.Point { return t.prices(t.weightOf(0)) },
	}.of(p)
}

// Ray returns a point of which Falls is true: ErrPlan if p is not unbounded.
func Ray(p api.Program) (api.Point, api.Errno) {
	return end{
		errs: [3]api.Errno{optimal: api.ErrPlan, contradictory: api.ErrPlan},
		take: (*tableau).direction,
	}.of(p)
}

// Value returns the cost C*x, as a point with one number: ErrArg if p is not valid or x is not proper.
func Value(p api.Program, x api.Point) (api.Point, api.Errno) {
	if !validProgram(p) || !proper(x, len(p.C)) {
		return api.Point{}, api.ErrArg
	}
	return lowest([]int{dot(p.C, x.Num)}, x.Den), api.OK
}

// Feasible reports whether x has no number below 0 and A*x is at least B.
func Feasible(p api.Program, x api.Point) bool {
	return validProgram(p) && proper(x, len(p.C)) && atLeast(0).all(x.Num) &&
		atLeast(0).all(beyond(rowSums(p.A, x.Num), p.B, x.Den))
}

// Bounds reports whether y has no number below 0 and y*A is at most C: then C*x is at least y*B for every feasible x.
func Bounds(p api.Program, y api.Point) bool {
	return validProgram(p) && proper(y, len(p.A)) && atLeast(0).all(y.Num) &&
		atMost(0).all(beyond(columnSums(p.A, y.Num, len(p.C)), p.C, y.Den))
}

// Denies reports whether y has no number below 0, y*A is at most 0 and y*B is above 0: then no x is feasible.
func Denies(p api.Program, y api.Point) bool {
	return validProgram(p) && proper(y, len(p.A)) && atLeast(0).all(y.Num) &&
		atMost(0).all(columnSums(p.A, y.Num, len(p.C))) && dot(y.Num, p.B) > 0
}

// Falls reports whether d has no number below 0, A*d is at least 0 and C*d is below 0: then costs fall along d.
func Falls(p api.Program, d api.Point) bool {
	return validProgram(p) && proper(d, len(p.C)) && atLeast(0).all(d.Num) &&
		atLeast(0).all(rowSums(p.A, d.Num)) && dot(p.C, d.Num) < 0
}
