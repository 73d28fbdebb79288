package branch_test

import (
	"math/big"
	"math/rand"
	"slices"

	"tinplate/api"
)

// What the tests compute on their own: all vectors of a box, and proofs with numbers of any length.

// vectors are all vectors of the box in lexicographic order.
func vectors(upper []int) [][]int {
	list := [][]int{nil}
	for _, end := range upper {
		var longer [][]int
		for _, x := range list {
			for k := range end + 1 {
				longer = append(longer, append(slices.Clone(x), k))
			}
		}
		list = longer
	}
	return list
}

func times(a, b []int) int {
	sum := 0
	for j, x := range a {
		sum += x * b[j]
	}
	return sum
}

func isFeasible(w api.Whole, x []int) bool {
	if len(x) != len(w.Upper) {
		return false
	}
	for j, k := range x {
		if k < 0 || k > w.Upper[j] {
			return false
		}
	}
	for i, row := range w.A {
		if times(row, x) < w.B[i] {
			return false
		}
	}
	return true
}

// costsOf are the costs of all feasible vectors, and best the vector that Solve is to return, nil if there is none.
func costsOf(w api.Whole) (costs, best []int) {
	for _, x := range vectors(w.Upper) {
		if !isFeasible(w, x) {
			continue
		}
		cost := times(w.C, x)
		if best == nil || cost < times(w.C, best) {
			best = x
		}
		costs = append(costs, cost)
	}
	return costs, best
}

func countOf(costs []int, limit int) int {
	n := 0
	for _, cost := range costs {
		if cost <= limit {
			n++
		}
	}
	return n
}

func ratio(num, den int) *big.Rat { return big.NewRat(int64(num), int64(den)) }

// boundOf is the bound of a valid leaf, as the chapter defines it.
func boundOf(w api.Whole, leaf api.Node, low, high, costs []int) *big.Rat {
	sum := new(big.Rat)
	for i, y := range leaf.Y {
		sum.Add(sum, new(big.Rat).Mul(ratio(y, leaf.Den), ratio(w.B[i], 1)))
	}
	for j, c := range costs {
		rest := ratio(c, 1)
		for i, y := range leaf.Y {
			rest.Sub(rest, new(big.Rat).Mul(ratio(y, leaf.Den), ratio(w.A[i][j], 1)))
		}
		var least *big.Rat
		for x := low[j]; x <= high[j]; x++ {
			if here := new(big.Rat).Mul(ratio(x, 1), rest); least == nil || here.Cmp(least) < 0 {
				least = here
			}
		}
		sum.Add(sum, least)
	}
	return sum
}

func isGood(w api.Whole, leaf api.Node, low, high []int, feasible bool, cost int) bool {
	if len(leaf.Y) != len(w.A) || leaf.Den < 1 || leaf.Den > api.MaxProof {
		return false
	}
	for _, y := range leaf.Y {
		if y < 0 || y > api.MaxProof {
			return false
		}
	}
	if boundOf(w, leaf, low, high, make([]int, len(w.C))).Sign() > 0 {
		return true
	}
	below := new(big.Rat).Sub(ratio(cost, 1), ratio(1, 1))
	return feasible && boundOf(w, leaf, low, high, w.C).Cmp(below) > 0
}

// tree reads one tree for the box, and returns the nodes after it.
func tree(w api.Whole, proof []api.Node, low, high []int, feasible bool, cost int) ([]api.Node, bool) {
	if len(proof) == 0 {
		return nil, false
	}
	head, rest := proof[0], proof[1:]
	if head.Var < 0 {
		return rest, isGood(w, head, low, high, feasible, cost)
	}
	if head.Var >= len(w.C) || head.At < low[head.Var] || head.At >= high[head.Var] {
		return nil, false
	}
	middle := slices.Clone(high)
	middle[head.Var] = head.At
	rest, ok := tree(w, rest, low, middle, feasible, cost)
	if !ok {
		return nil, false
	}
	middle = slices.Clone(low)
	middle[head.Var] = head.At + 1
	return tree(w, rest, middle, high, feasible, cost)
}

// accepts is what Check promises for valid programs and proofs that are not too long.
func accepts(w api.Whole, proof []api.Node, feasible bool, cost int) bool {
	rest, ok := tree(w, proof, make([]int, len(w.C)), w.Upper, feasible, cost)
	return ok && len(rest) == 0
}

// Programs of several kinds: all numbers, small ones, sparse ones, and those near the limits; most of the rows go
// through the box.

func number(r *rand.Rand, kind, limit int) int {
	switch kind {
	case 0:
		return r.Intn(2*limit+1) - limit
	case 1:
		return r.Intn(7) - 3
	case 2:
		return max(0, r.Intn(5)-2) * (r.Intn(9) - 4)
	default:
		return (limit - r.Intn(2)) * (1 - 2*r.Intn(2))
	}
}

func program(r *rand.Rand) api.Whole {
	kind, m, n, high := r.Intn(4), r.Intn(api.MaxRows+1), 1+r.Intn(api.MaxVars), 1+r.Intn(api.MaxUpper)
	w := api.Whole{}
	for range n {
		w.C = append(w.C, number(r, kind, api.MaxCost))
		w.Upper = append(w.Upper, r.Intn(high+1))
	}
	for range m {
		row, near := make([]int, n), r.Intn(7)-3
		for j := range row {
			row[j] = number(r, kind, api.MaxEntry)
			near += row[j] * r.Intn(w.Upper[j]+1)
		}
		w.A = append(w.A, row)
		w.B = append(w.B, max(-api.MaxCost, min(near, api.MaxCost)))
	}
	if m > 1 && r.Intn(4) == 0 {
		for j, x := range w.A[0] {
			w.A[1][j] = -x
		}
		w.B[1] = -w.B[0]
	}
	return w
}

func copyOf(w api.Whole) api.Whole {
	c := api.Whole{B: slices.Clone(w.B), C: slices.Clone(w.C), Upper: slices.Clone(w.Upper)}
	for _, row := range w.A {
		c.A = append(c.A, slices.Clone(row))
	}
	return c
}

func copyOfProof(proof []api.Node) []api.Node {
	list := slices.Clone(proof)
	for i, node := range list {
		list[i].Y = slices.Clone(node.Y)
	}
	return list
}
