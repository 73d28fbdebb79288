package linear

import (
	"slices"

	"tinplate/api"
)

// A basis is a list of vectors in Hermite normal form.
//
// Rows are put in one by one, and every vector is reduced by the basis as soon as it changes. So what stands in a
// pivot's column stays below the pivot, and the product of all pivots is at most a minor of the rows (at most
// 160 * 30^6, about 10^11). What stands in the other columns is at most some quotients of minors. So no number of a
// vector is above 10^13. Elimination that reduces only at the end does not have this property.
type basis [][]int

// pivotOf returns the column of the first non-zero number: len(v) if there is none.
func pivotOf(v []int) int {
	for c, x := range v {
		if x != 0 {
			return c
		}
	}
	return len(v)
}

// combine returns v + k*w, changed by a vector of the lattice so that it has a number from 0 to the pivot less 1 in
// the column of each pivot.
func (b basis) combine(v []int, k int, w []int) []int {
	sum := make([]wide, len(v))
	for j, x := range v {
		sum[j] = widen(x).plus(product(k, w[j]))
	}
	for _, row := range b {
		c := pivotOf(row)
		q := sum[c].over(row[c])
		for j, x := range row {
			sum[j] = sum[j].plus(product(-q, x))
		}
	}
	list := make([]int, len(v))
	for j, x := range sum {
		list[j] = x.narrow()
	}
	return list
}

func (b basis) reduce(v []int) []int { return b.combine(v, 0, v) }

// with returns the basis of the lattice that has v too.
func (b basis) with(v []int) basis {
	c := pivotOf(v)
	if c == len(v) {
		return b
	}
	if len(b) == 0 || c < pivotOf(b[0]) {
		return append(basis{b.reduce(positive(v))}, b...)
	}
	head, rest := b[0], b[1:]
	if c == pivotOf(head) {
		head, v = rest.divide(head, v, c)
	}
	rest = rest.with(v)
	return append(basis{rest.reduce(head)}, rest...)
}

// divide applies Euclid's algorithm to two vectors in a column: the first one returned has the greatest common
// divisor there, the second one 0.
func (b basis) divide(v, w []int, column int) ([]int, []int) {
	for w[column] != 0 {
		v, w = w, b.combine(v, -(v[column]/w[column]), w)
	}
	return positive(v), w
}

// positive returns v or its negative, whichever has a positive pivot.
func positive(v []int) []int {
	if v[pivotOf(v)] > 0 {
		return v
	}
	opposite := make([]int, len(v))
	addTimes(opposite, -1, v)
	return opposite
}

func basisOf(rows [][]int) basis {
	var b basis
	for _, row := range rows {
		b = b.with(row)
	}
	return b
}

func columns(a [][]int, n int) [][]int {
	list := make([][]int, n)
	for j := range list {
		for _, row := range a {
			list[j] = append(list[j], row[j])
		}
	}
	return list
}

// graph returns the basis of the lattice of all vectors that have a*x first and then x, for rows of width n. Those
// of its vectors that begin with zeros for all rows are the kernel's.
func graph(a [][]int, n int) basis {
	rows := columns(a, n)
	for j := range rows {
		unit := make([]int, n)
		unit[j] = 1
		rows[j] = append(rows[j], unit...)
	}
	return basisOf(rows)
}

// refutation returns y so that y*h is an integer for every h of the basis, and y*v is not. It asks that v is
// reduced and not zero.
func (b basis) refutation(v []int) api.Point {
	c := pivotOf(v)
	y, den := make([]int, len(v)), b.divisor(c, v[c])
	y[c] = 1
	// Vectors with later pivots are 0 wherever y is not, and so is v but for c.
	for _, h := range slices.Backward(b) {
		p := pivotOf(h)
		if p >= c {
			continue
		}
		rest := productModulo(y, h, den)
		for j := range y {
			y[j] *= h[p]
		}
		den *= h[p]
		y[p] = -rest
		if rest > 0 {
			y[p] += den
		}
	}
	return lowest(y, den)
}

// divisor returns a number that does not divide x, and that divides what stands in the column in the vectors whose
// pivot it is. A reduced x is below that pivot; where there is none, any number will do.
func (b basis) divisor(column, x int) int {
	for _, h := range b {
		if pivotOf(h) == column {
			return h[column]
		}
	}
	d := 2
	for x%d == 0 {
		d++
	}
	return d
}

// productModulo returns y*h modulo den, from 0 on. The numbers of y are from 0 to den-1.
func productModulo(y, h []int, den int) int {
	sum := 0
	for j, x := range y {
		sum = (sum + product(x, h[j]).modulo(den)) % den
	}
	return sum
}
