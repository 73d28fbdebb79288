package linear_test

import (
	"math/big"
	"math/rand"
	"slices"

	"tinplate/api"
)

// What the tests compute on their own, with numbers of any length.

func whole(x int) *big.Int { return big.NewInt(int64(x)) }

func ratio(num, den int) *big.Rat { return big.NewRat(int64(num), int64(den)) }

func rationals(x api.Point) []*big.Rat {
	list := make([]*big.Rat, len(x.Num))
	for i, num := range x.Num {
		list[i] = ratio(num, x.Den)
	}
	return list
}

func times(row []int, x []*big.Rat) *big.Rat {
	sum := new(big.Rat)
	for j, k := range row {
		sum.Add(sum, new(big.Rat).Mul(ratio(k, 1), x[j]))
	}
	return sum
}

func column(a [][]int, j int) []int {
	list := make([]int, len(a))
	for i, row := range a {
		list[i] = row[j]
	}
	return list
}

func inLowestTerms(x api.Point) bool {
	if x.Den < 1 {
		return false
	}
	g := whole(x.Den)
	for _, num := range x.Num {
		g.GCD(nil, nil, g, new(big.Int).Abs(whole(num)))
	}
	return g.Cmp(whole(1)) == 0
}

// normalForm is the Hermite normal form by plain elimination.
func normalForm(rows [][]int, n int) [][]*big.Int {
	var list, done [][]*big.Int
	for _, row := range rows {
		list = append(list, wholes(row))
	}
	for c := range n {
		var head []*big.Int
		var rest [][]*big.Int
		for _, v := range list {
			if head == nil && v[c].Sign() != 0 {
				head = v
				continue
			}
			for head != nil && v[c].Sign() != 0 {
				subtract(head, v, new(big.Int).Quo(head[c], v[c]))
				head, v = v, head
			}
			rest = append(rest, v)
		}
		list = rest
		if head == nil {
			continue
		}
		if head[c].Sign() < 0 {
			subtract(head, head, whole(2))
		}
		for _, v := range done {
			subtract(v, head, new(big.Int).Div(v[c], head[c]))
		}
		done = append(done, head)
	}
	return done
}

func wholes(row []int) []*big.Int {
	var list []*big.Int
	for _, x := range row {
		list = append(list, whole(x))
	}
	return list
}

// subtract changes v to v - q*w.
func subtract(v, w []*big.Int, q *big.Int) {
	for j := range v {
		v[j] = new(big.Int).Sub(v[j], new(big.Int).Mul(q, w[j]))
	}
}

// remainder is v reduced by a list in Hermite normal form.
func remainder(form [][]*big.Int, v []int) []*big.Int {
	rest := wholes(v)
	for _, row := range form {
		c := slices.IndexFunc(row, func(x *big.Int) bool { return x.Sign() != 0 })
		subtract(rest, row, new(big.Int).Div(rest[c], row[c]))
	}
	return rest
}

func isZero(v []*big.Int) bool {
	return !slices.ContainsFunc(v, func(x *big.Int) bool { return x.Sign() != 0 })
}

func sameNumbers(v []int, w []*big.Int) bool {
	return slices.EqualFunc(v, w, func(x int, y *big.Int) bool { return whole(x).Cmp(y) == 0 })
}

func sameRows(rows [][]int, form [][]*big.Int) bool {
	return slices.EqualFunc(rows, form, sameNumbers)
}

// determinant is that of a square matrix, by expansion along the first row.
func determinant(a [][]int) *big.Int {
	if len(a) == 0 {
		return whole(1)
	}
	sum := new(big.Int)
	for j, x := range a[0] {
		var minor [][]int
		for _, row := range a[1:] {
			minor = append(minor, slices.Concat(row[:j], row[j+1:]))
		}
		term := new(big.Int).Mul(whole(x), determinant(minor))
		if j%2 == 1 {
			term.Neg(term)
		}
		sum.Add(sum, term)
	}
	return sum
}

// subsets are all ascending lists of k numbers below n.
func subsets(n, k int) [][]int {
	if k == 0 {
		return [][]int{nil}
	}
	var list [][]int
	for last := k - 1; last < n; last++ {
		for _, s := range subsets(last, k-1) {
			list = append(list, append(slices.Clone(s), last))
		}
	}
	return list
}

// commonMinor is the greatest common divisor of the determinants of all columns of so many rows: 1 exactly if the
// lattice of the rows has all integer vectors of the space that they span.
func commonMinor(rows [][]int, n int) *big.Int {
	g := new(big.Int)
	for _, s := range subsets(n, len(rows)) {
		var minor [][]int
		for _, row := range rows {
			var part []int
			for _, j := range s {
				part = append(part, row[j])
			}
			minor = append(minor, part)
		}
		g.GCD(nil, nil, g, new(big.Int).Abs(determinant(minor)))
	}
	return g
}

// refutes is what Refutes promises for valid arguments.
func refutes(a [][]int, b []int, n int, y api.Point) bool {
	x := rationals(y)
	for j := range n {
		if !times(column(a, j), x).IsInt() {
			return false
		}
	}
	return !times(b, x).IsInt()
}

// The four checkers, for a valid program and a proper point.

func notNegative(x []*big.Rat) bool {
	return !slices.ContainsFunc(x, func(r *big.Rat) bool { return r.Sign() < 0 })
}

func feasible(p api.Program, x []*big.Rat) bool {
	for i, row := range p.A {
		if times(row, x).Cmp(ratio(p.B[i], 1)) < 0 {
			return false
		}
	}
	return notNegative(x)
}

func bounds(p api.Program, y []*big.Rat) bool {
	for j, c := range p.C {
		if times(column(p.A, j), y).Cmp(ratio(c, 1)) > 0 {
			return false
		}
	}
	return notNegative(y)
}

func denies(p api.Program, y []*big.Rat) bool {
	for j := range p.C {
		if times(column(p.A, j), y).Sign() > 0 {
			return false
		}
	}
	return notNegative(y) && times(p.B, y).Sign() > 0
}

func falls(p api.Program, d []*big.Rat) bool {
	for _, row := range p.A {
		if times(row, d).Sign() < 0 {
			return false
		}
	}
	return notNegative(d) && times(p.C, d).Sign() < 0
}

// vertices are the points at which as many of the inequalities as there are columns meet, those that are feasible.
func vertices(p api.Program) [][]*big.Rat {
	n, m := len(p.C), len(p.A)
	var list [][]*big.Rat
	for _, s := range subsets(n+m, n) {
		var rows [][]*big.Rat
		for _, k := range s {
			row := make([]*big.Rat, n+1)
			for j := range row {
				row[j] = new(big.Rat)
			}
			if k < n {
				row[k].SetInt64(1)
			} else {
				for j, x := range append(slices.Clone(p.A[k-n]), p.B[k-n]) {
					row[j].SetInt64(int64(x))
				}
			}
			rows = append(rows, row)
		}
		if x, ok := meeting(rows); ok && feasible(p, x) {
			list = append(list, x)
		}
	}
	return list
}

// meeting solves n equations for n unknowns, each with its right side last, if there is exactly one solution.
func meeting(rows [][]*big.Rat) ([]*big.Rat, bool) {
	n := len(rows)
	for c := range n {
		k := c
		for k < n && rows[k][c].Sign() == 0 {
			k++
		}
		if k == n {
			return nil, false
		}
		rows[c], rows[k] = rows[k], rows[c]
		for i, row := range rows {
			if i == c || row[c].Sign() == 0 {
				continue
			}
			factor := new(big.Rat).Quo(row[c], rows[c][c])
			for j := range row {
				row[j] = new(big.Rat).Sub(row[j], new(big.Rat).Mul(factor, rows[c][j]))
			}
		}
	}
	x := make([]*big.Rat, n)
	for i, row := range rows {
		x[i] = new(big.Rat).Quo(row[n], row[i])
	}
	return x, true
}

func compare(x, y []*big.Rat) int {
	return slices.CompareFunc(x, y, func(a, b *big.Rat) int { return a.Cmp(b) })
}

// Arguments, of several kinds: all numbers, small ones, sparse ones, and those for which determinants are large.

func number(r *rand.Rand, kind, limit int) int {
	switch kind {
	case 0:
		return r.Intn(2*limit+1) - limit
	case 1:
		return r.Intn(7) - 3
	case 2:
		return max(0, r.Intn(5)-2) * (r.Intn(9) - 4)
	default:
		return (limit - r.Intn(2)) * (1 - 2*r.Intn(2))
	}
}

func numbers(r *rand.Rand, kind, limit, n int) []int {
	v := make([]int, n)
	for j := range v {
		v[j] = number(r, kind, limit)
	}
	return v
}

func rows(r *rand.Rand, kind, m, n int) [][]int {
	list := make([][]int, m)
	for i := range list {
		list[i] = numbers(r, kind, api.MaxEntry, n)
	}
	if m > 1 && r.Intn(4) == 0 {
		list[m-1] = slices.Clone(list[0])
	}
	return list
}

func program(r *rand.Rand) api.Program {
	kind, m, n := r.Intn(4), r.Intn(api.MaxRows+1), 1+r.Intn(api.MaxWidth)
	p := api.Program{
		A: rows(r, kind, m, n),
		B: numbers(r, kind, api.MaxCost, m),
		C: numbers(r, kind, api.MaxCost, n),
	}
	// Most programs would not be feasible or would be unbounded otherwise.
	if r.Intn(2) == 0 {
		for j, x := range p.C {
			p.C[j] = max(x, -x)
		}
	}
	if r.Intn(2) == 0 {
		for i, x := range p.B {
			p.B[i] = min(x, -x)
		}
	}
	return p
}

// point is one near the limits, or a small one.
func point(r *rand.Rand, n int) api.Point {
	if r.Intn(2) == 0 {
		return api.Point{Num: numbers(r, 1, 3, n), Den: 1 + r.Intn(4)}
	}
	x := api.Point{Num: make([]int, n), Den: api.MaxDen - r.Intn(3)}
	for i := range x.Num {
		x.Num[i] = number(r, r.Intn(4), api.MaxDen)
	}
	return x
}
