package linear

import (
	"math/bits"

	"tinplate/api"
)

func gcd(a, b int) int {
	for b != 0 {
		a, b = b, a%b
	}
	return max(a, -a)
}

func dot(a, b []int) int {
	sum := 0
	for i, x := range a {
		sum += x * b[i]
	}
	return sum
}

// rowSums returns a*x.
func rowSums(a [][]int, x []int) []int {
	sums := make([]int, len(a))
	for i, row := range a {
		sums[i] = dot(row, x)
	}
	return sums
}

// columnSums returns y*a for rows of width n; n says how many sums there are if there are no rows.
func columnSums(a [][]int, y []int, n int) []int {
	sums := make([]int, n)
	for i, row := range a {
		addTimes(sums, y[i], row)
	}
	return sums
}

// addTimes adds k*w to v.
func addTimes(v []int, k int, w []int) {
	for j, x := range w {
		v[j] += k * x
	}
}

// beyond returns by how much each of the sums exceeds its limit times den.
func beyond(sums, limits []int, den int) []int {
	over := make([]int, len(sums))
	for i, sum := range sums {
		over[i] = sum - limits[i]*den
	}
	return over
}

// lowest returns the point in lowest terms. It changes num.
func lowest(num []int, den int) api.Point {
	g := den
	for _, x := range num {
		g = gcd(g, x)
	}
	for i := range num {
		num[i] /= g
	}
	return api.Point{Num: num, Den: den / g}
}

// wide is a number of 128 bits in two's complement. The numbers that are kept (determinants of the numbers of valid
// arguments, and quotients of those) fit into an int, but the products from which the next ones are computed do not.
type wide struct{ high, low uint64 }

func widen(x int) wide { return wide{uint64(x >> 63), uint64(x)} }

// narrow returns the number as an int, into which it must fit.
func (w wide) narrow() int { return int(w.low) }

func product(a, b int) wide {
	high, low := bits.Mul64(uint64(a), uint64(b))
	// Mul64 has read a negative number as itself plus 2^64.
	if a < 0 {
		high -= uint64(b)
	}
	if b < 0 {
		high -= uint64(a)
	}
	return wide{high, low}
}

func (w wide) plus(v wide) wide {
	low, carry := bits.Add64(w.low, v.low, 0)
	high, _ := bits.Add64(w.high, v.high, carry)
	return wide{high, low}
}

func (w wide) negative() bool { return int64(w.high) < 0 }

func (w wide) negated() wide { return wide{^w.high, ^w.low}.plus(wide{0, 1}) }

func (w wide) less(v wide) bool { return w.plus(v.negated()).negative() }

// over divides by a positive number and rounds down; the quotient must fit into an int.
func (w wide) over(by int) int {
	if !w.negative() {
		q, _ := bits.Div64(w.high, w.low, uint64(by))
		return int(q)
	}
	n := w.negated()
	q, rest := bits.Div64(n.high, n.low, uint64(by))
	if rest > 0 {
		q++
	}
	return -int(q)
}

// modulo returns the remainder of a division by a positive number, from 0 on; the quotient must fit into an int.
func (w wide) modulo(by int) int { return w.plus(product(-by, w.over(by))).narrow() }
