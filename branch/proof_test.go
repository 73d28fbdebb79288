package branch_test

import (
	"math"
	"math/rand"
	"reflect"
	"slices"
	"testing"

	"tinplate/api"
	"tinplate/branch"
)

func leaf(den int, y ...int) api.Node { return api.Node{Var: -1, Y: y, Den: den} }

func split(variable, at int) api.Node { return api.Node{Var: variable, At: at} }

// P2.2
func TestCheckRefusals(t *testing.T) {
	// the chapter's second example, and changes of it
	wide := none
	wide.C, wide.Upper = []int{1}, []int{7}
	const most = api.MaxProof
	for i, c := range []struct {
		w     api.Whole
		proof []api.Node
		want  bool
	}{
		{none, []api.Node{split(0, 0), leaf(1, 1, 0), leaf(1, 0, 1)}, true},
		{none, []api.Node{leaf(1, 1, 1)}, false}, // the bound is 0
		{none, nil, false},
		{none, []api.Node{split(0, 0)}, false},
		{none, []api.Node{split(0, 0), leaf(1, 1, 0)}, false},
		{none, []api.Node{split(0, 0), leaf(1, 1, 0), leaf(1, 0, 1), leaf(1, 0, 1)}, false},
		{none, []api.Node{split(0, 0), leaf(1, 1, 0), leaf(1, 0, 1), split(0, 0)}, false},
		{none, []api.Node{leaf(1, 1, 0), leaf(1, 0, 1)}, false},
		{none, []api.Node{split(0, 0), leaf(1, 0, 1), leaf(1, 1, 0)}, false}, // preorder: the lower part comes first
		// what a split is
		{none, []api.Node{split(1, 0), leaf(1, 1, 0), leaf(1, 0, 1)}, false},
		{none, []api.Node{split(math.MaxInt, 0), leaf(1, 1, 0), leaf(1, 0, 1)}, false},
		{none, []api.Node{split(0, -1), leaf(1, 1, 0), leaf(1, 0, 1)}, false},
		{none, []api.Node{split(0, math.MinInt), leaf(1, 1, 0), leaf(1, 0, 1)}, false},
		{none, []api.Node{split(0, 1), leaf(1, 1, 0), leaf(1, 0, 1)}, false}, // 1 0 has the bound -1 at x = 1
		{none, []api.Node{split(0, 2), split(0, 0), leaf(1, 1, 0), leaf(1, 0, 1), leaf(1, 0, 1)}, true},
		{none, []api.Node{split(0, 2), split(0, 2), leaf(1, 1, 0), leaf(1, 0, 1), leaf(1, 0, 1)}, false},
		{none, []api.Node{split(0, 0), leaf(1, 1, 0), split(0, 0), leaf(1, 0, 1), leaf(1, 0, 1)}, false},
		{none, []api.Node{split(0, 0), leaf(1, 1, 0), split(0, 1), leaf(1, 0, 1), leaf(1, 0, 1)}, true},
		{none, []api.Node{split(0, 0), leaf(1, 1, 0), split(0, 2), leaf(1, 0, 1), leaf(1, 0, 1)}, true},
		{none, []api.Node{split(0, 0), leaf(1, 1, 0), split(0, 3), leaf(1, 0, 1), leaf(1, 0, 1)}, false},
		{none, []api.Node{split(0, 0), leaf(1, 1, 0), split(0, math.MaxInt), leaf(1, 0, 1), leaf(1, 0, 1)}, false},
		{wide, []api.Node{split(0, 0), leaf(1, 1, 0), split(0, 6), leaf(1, 0, 1), leaf(1, 0, 1)}, true},
		{none, []api.Node{{Var: 0, Y: []int{-1}, Den: -7}, leaf(1, 1, 0), leaf(1, 0, 1)}, true}, // plays no part
		// what a leaf is
		{none, []api.Node{split(0, 0), {Var: math.MinInt, At: 99, Y: []int{1, 0}, Den: 1}, leaf(1, 0, 1)}, true},
		{none, []api.Node{split(0, 0), leaf(1, 1), leaf(1, 0, 1)}, false},
		{none, []api.Node{split(0, 0), leaf(1, 1, 0, 0), leaf(1, 0, 1)}, false},
		{none, []api.Node{split(0, 0), leaf(0, 1, 0), leaf(1, 0, 1)}, false},
		{none, []api.Node{split(0, 0), leaf(-1, 1, 0), leaf(1, 0, 1)}, false},
		{none, []api.Node{split(0, 0), leaf(math.MinInt, 1, 0), leaf(1, 0, 1)}, false},
		{none, []api.Node{split(0, 0), leaf(most, 1, 0), leaf(1, 0, 1)}, true}, // above 0, if only just
		{none, []api.Node{split(0, 0), leaf(most+1, 1, 0), leaf(1, 0, 1)}, false},
		{none, []api.Node{split(0, 0), leaf(math.MaxInt, 1, 0), leaf(1, 0, 1)}, false},
		{none, []api.Node{split(0, 0), leaf(1, most, 0), leaf(most, 0, most)}, true},
		{none, []api.Node{split(0, 0), leaf(1, most+1, 0), leaf(1, 0, 1)}, false},
		{none, []api.Node{split(0, 0), leaf(1, math.MaxInt, 0), leaf(1, 0, 1)}, false},
		{none, []api.Node{split(0, 0), leaf(1, 1, -1), leaf(1, 0, 1)}, false}, // the bound would be 2
		{none, []api.Node{split(0, 0), leaf(1, 1, math.MinInt), leaf(1, 0, 1)}, false},
	} {
		for _, cost := range []int{0, math.MinInt, math.MaxInt} {
			if ok, err := branch.Check(c.w, c.proof, false, cost); ok != c.want || err != api.OK {
				t.Error(i, c, cost, ok, err)
			}
		}
		// a refusal is good for any cost, too
		if ok, err := branch.Check(c.w, c.proof, true, math.MaxInt); ok != c.want || err != api.OK {
			t.Error(i, c, ok, err)
		}
	}
}

// P2.2
func TestCheckCosts(t *testing.T) {
	free := api.Whole{C: []int{1000, -1000}, Upper: []int{7, 7}}
	for i, c := range []struct {
		w     api.Whole
		proof []api.Node
		cost  int
		want  bool
	}{
		{example, []api.Node{leaf(2, 3)}, 5, true},
		{example, []api.Node{leaf(2, 3)}, 4, true},
		{example, []api.Node{leaf(2, 3)}, math.MinInt, true},
		{example, []api.Node{leaf(2, 3)}, math.MinInt + 1, true},
		{example, []api.Node{leaf(2, 3)}, 6, false},
		{example, []api.Node{leaf(2, 3)}, math.MaxInt, false},
		{example, []api.Node{leaf(3, 4)}, 5, false}, // the bound is 4, which is not above 4
		{example, []api.Node{leaf(3, 4)}, 4, true},
		{example, []api.Node{leaf(300, 401)}, 5, true},
		{example, []api.Node{leaf(1, 2)}, 5, false}, // beyond the costs: the bound is 6 - 3
		{example, []api.Node{leaf(1, 0)}, 1, false},
		{example, []api.Node{leaf(1, 0)}, 0, true},
		{example, []api.Node{split(0, 0), split(1, 2), leaf(1, 1), leaf(1, 0), leaf(1, 0)}, 3, true},
		{example, []api.Node{split(0, 0), split(1, 2), leaf(1, 1), leaf(1, 0), leaf(1, 0)}, 4, false},
		{free, []api.Node{leaf(1)}, -7000, true},
		{free, []api.Node{{Var: -1, Y: []int{}, Den: 7}}, -7000, true},
		{free, []api.Node{leaf(1)}, -6999, false},
		{free, []api.Node{split(1, 3), leaf(1), leaf(1)}, -7000, true},
		{free, []api.Node{split(1, 3), leaf(1), leaf(1)}, -6999, false},
	} {
		if ok, err := branch.Check(c.w, c.proof, true, c.cost); ok != c.want || err != api.OK {
			t.Error(i, c, ok, err)
		}
		// costs do not show that there is no feasible vector
		if ok, err := branch.Check(c.w, c.proof, false, c.cost); ok || err != api.OK {
			t.Error(i, c, ok, err)
		}
	}
}

// fullTree is the tree for a box that has a leaf for every vector.
func fullTree(w api.Whole, low, high []int) []api.Node {
	for j := range low {
		if low[j] < high[j] {
			below, above := slices.Clone(high), slices.Clone(low)
			below[j], above[j] = low[j], low[j]+1
			return slices.Concat([]api.Node{split(j, low[j])}, fullTree(w, low, below), fullTree(w, above, high))
		}
	}
	y := make([]int, len(w.A))
	for i, row := range w.A {
		if times(row, low) < w.B[i] {
			y[i] = 1
			break
		}
	}
	return []api.Node{leaf(1, y...)}
}

// P2.2
func TestLongestProof(t *testing.T) {
	low, high := make([]int, api.MaxVars), slices.Repeat([]int{api.MaxUpper}, api.MaxVars)
	proof := fullTree(odd, low, high)
	if ok, err := branch.Check(odd, proof, false, 0); len(proof) != api.MaxNodes || !ok || err != api.OK {
		t.Error(len(proof), ok, err)
	}
	proof = append(proof, leaf(1, 1, 0))
	if ok, err := branch.Check(odd, proof, false, 0); ok || err != api.ErrLimit {
		t.Error(ok, err)
	}
	if ok, err := branch.Check(example, make([]api.Node, api.MaxNodes), true, 0); ok || err != api.OK {
		t.Error(ok, err)
	}
	if ok, err := branch.Check(example, make([]api.Node, api.MaxNodes+1), true, 0); ok || err != api.ErrLimit {
		t.Error(ok, err)
	}
	_, cost, _ := branch.Solve(largest)
	proof = fullTree(largest, low, high)
	for _, limit := range []int{cost, cost + 1} {
		if ok, err := branch.Check(largest, proof, true, limit); ok != (limit == cost) || err != api.OK {
			t.Error(limit, ok, err)
		}
	}
}

// P2.3, P2.6
func TestProve(t *testing.T) {
	r := rand.New(rand.NewSource(4))
	list := []api.Whole{
		example, none, odd, largest,
		{C: []int{0}, Upper: []int{0}},
		{C: []int{1000, -1000, 0}, Upper: []int{7, 7, 7}},
		{A: [][]int{{0}}, B: []int{1}, C: []int{1}, Upper: []int{7}},
		{A: [][]int{{6, 10, 15}, {-6, -10, -15}}, B: []int{29, -29}, C: []int{1, 1, 1}, Upper: []int{7, 7, 7}},
		// as many rows as there can be, and none for the far ends of the box beside them
		{A: [][]int{{29, 30, 28, 27, 26}, {-29, -30, -28, -27, -26}, {29, -30, 28, -27, 26}, {-29, 30, -28, 27, -26},
			{1, 2, 3, 4, 5}, {-1, -2, -3, -4, -5}},
			B: []int{501, -502, 3, -4, 40, -60}, C: []int{-1, 2, -3, 4, -5}, Upper: []int{7, 7, 7, 7, 7}},
		// rows that are as far from the vectors as they can be
		{A: [][]int{{30, 30, 30, 30, 30}, {-30, -30, -30, -30, -29}}, B: []int{1000, -1000}, C: []int{1, 2, 3, 4, 5}, Upper: []int{7, 7, 7, 7, 7}},
		{A: [][]int{{-30, -30, -30, -30, -30}}, B: []int{1000}, C: []int{-1, -2, 3, 4, 5}, Upper: []int{7, 7, 7, 7, 7}},
		{A: [][]int{{30, 30, 30, 30, 30}, {1, 1, 1, 1, 1}}, B: []int{-1000, 18}, C: []int{-1, 3, 3, 3, 3}, Upper: []int{7, 7, 7, 7, 7}},
	}
	for range 3000 {
		list = append(list, program(r))
	}
	for _, w := range list {
		_, cost, solved := branch.Solve(w)
		proof, err := branch.Prove(w)
		if err != api.OK || len(proof) > api.MaxNodes || !accepts(w, proof, solved == api.OK, cost) {
			t.Fatal(w, err, len(proof), proof[:min(9, len(proof))])
		}
		if ok, err := branch.Check(w, proof, solved == api.OK, cost); !ok || err != api.OK {
			t.Fatal(w, ok, err)
		}
		for _, node := range proof {
			if node.Var < 0 && node.At != 0 || node.Var >= 0 && (len(node.Y) > 0 || node.Den != 0) {
				t.Fatal(w, node)
			}
		}
	}
}

// Proofs use the linear program: it shows at once what splits and single rows would take thousands of nodes for.
func TestShortProofs(t *testing.T) {
	for _, c := range []struct {
		w    api.Whole
		most int
	}{
		{example, 1}, {none, 3},
		{api.Whole{A: [][]int{{2, 3, 4, 5, 6}}, B: []int{60}, C: []int{4, 6, 8, 10, 12}, Upper: []int{7, 7, 7, 7, 7}}, 1},
		{api.Whole{A: [][]int{{1, 1, 1, 1, 1}, {-1, -1, -1, -1, -1}}, B: []int{18, -17}, C: []int{1, 1, 1, 1, 1}, Upper: []int{7, 7, 7, 7, 7}}, 1},
		{api.Whole{A: [][]int{{2, 1, 0, 0, 0}, {0, 0, 2, 1, 0}}, B: []int{9, 9}, C: []int{2, 1, -2, 2, -3}, Upper: []int{7, 7, 7, 7, 7}}, 1},
	} {
		if proof, err := branch.Prove(c.w); len(proof) > c.most || err != api.OK {
			t.Error(c, len(proof), err)
		}
	}
	r, total := rand.New(rand.NewSource(4)), 0
	for range 3000 {
		proof, _ := branch.Prove(program(r))
		total += len(proof)
	}
	// It is 9262. Half as many again without single rows, or from a corner that is not the nearest.
	if total > 9500 {
		t.Error("proofs have become longer", total)
	}
}

// changed returns the proof with one thing changed.
func changed(r *rand.Rand, proof []api.Node) []api.Node {
	list := copyOfProof(proof)
	i := r.Intn(len(list))
	node := &list[i]
	switch r.Intn(8) {
	case 0:
		return slices.Delete(list, i, i+1)
	case 1:
		return slices.Insert(list, i, list[r.Intn(len(list))])
	case 2:
		k := r.Intn(len(list))
		list[i], list[k] = list[k], list[i]
	case 3:
		node.Var = r.Intn(api.MaxVars+2) - 1
	case 4:
		node.At += r.Intn(3) - 1
	case 5:
		node.Den += r.Intn(3) - 1
	case 6:
		if len(node.Y) > 0 {
			node.Y[r.Intn(len(node.Y))] += r.Intn(5) - 2
		}
	default:
		node.Y = append(node.Y, 0)[r.Intn(2):]
	}
	return list
}

// P2.2, P2.5, P2.8: Check is held against the definition, and what it accepts against all vectors.
func TestSound(t *testing.T) {
	r := rand.New(rand.NewSource(5))
	met := map[bool]int{}
	for range 3000 {
		w := program(r)
		costs, best := costsOf(w)
		proof, _ := branch.Prove(w)
		for range 20 {
			feasible, cost := r.Intn(3) > 0, r.Intn(5)-2
			if best != nil {
				cost += times(w.C, best)
			}
			ok, err := branch.Check(w, proof, feasible, cost)
			if ok != accepts(w, proof, feasible, cost) || err != api.OK {
				t.Fatal(w, proof, feasible, cost, ok, err)
			}
			if n, _ := branch.Count(w, cost-1); ok && feasible && (n > 0 || countOf(costs, cost-1) > 0) {
				t.Fatal(w, proof, cost)
			}
			if ok && !feasible && best != nil {
				t.Fatal(w, proof, best)
			}
			met[ok]++
			if proof = changed(r, proof); len(proof) == 0 || r.Intn(5) == 0 {
				proof, _ = branch.Prove(w)
			}
		}
	}
	if met[true] < 5000 || met[false] < 5000 {
		t.Error("too few cases of one kind", met)
	}
}

// P2.2: leaves with multipliers of all sizes, up to the limits, at the costs around their bounds.
func TestBounds(t *testing.T) {
	r := rand.New(rand.NewSource(6))
	met := map[bool]int{}
	for range 20000 {
		w := program(r)
		size := 1 << r.Intn(41)
		node := leaf(max(1, size-r.Intn(3)))
		for range w.A {
			node.Y = append(node.Y, min(size, r.Intn(4))*(size/max(1, r.Intn(4)*r.Intn(4))))
			if i := len(node.Y) - 1; node.Y[i] > api.MaxProof {
				node.Y[i] = api.MaxProof
			}
		}
		if r.Intn(2) == 0 {
			node.Den = 1 + r.Intn(3)
		}
		bound := boundOf(w, node, make([]int, len(w.C)), w.Upper, w.C)
		near := int(bound.Num().Int64()/bound.Denom().Int64()) + r.Intn(4) - 1
		for _, cost := range []int{near, math.MinInt, math.MaxInt} {
			feasible := r.Intn(4) > 0
			ok, err := branch.Check(w, []api.Node{node}, feasible, cost)
			if ok != accepts(w, []api.Node{node}, feasible, cost) || err != api.OK {
				t.Fatal(w, node, feasible, cost, ok, err)
			}
			if cost == near {
				met[ok]++
			}
		}
	}
	if met[true] < 3000 || met[false] < 3000 {
		t.Error("too few cases of one kind", met)
	}
}

// P2.2: the largest sums that there can be.
func TestLargestBounds(t *testing.T) {
	for _, sign := range []int{1, -1} {
		w := copyOf(largest)
		for i, row := range w.A {
			for j := range row {
				row[j] *= -sign
			}
			w.B[i] *= -sign
		}
		for j := range w.C {
			w.C[j] = -1000 * sign
		}
		for _, den := range []int{1, api.MaxProof} {
			node := leaf(den, slices.Repeat([]int{api.MaxProof}, 6)...)
			low := make([]int, len(w.C))
			bound := boundOf(w, node, low, w.Upper, w.C)
			if !bound.IsInt() {
				t.Fatal(bound)
			}
			at := int(bound.Num().Int64())
			for _, cost := range []int{at - 1, at, at + 1, at + 2, math.MinInt, math.MaxInt} {
				want := isGood(w, node, low, w.Upper, true, cost)
				if ok, err := branch.Check(w, []api.Node{node}, true, cost); ok != want || err != api.OK {
					t.Error(sign, den, cost, ok, want, err)
				}
			}
		}
	}
}

// P2.3, P2.4, P2.8: a proof for a cost is one for all smaller costs, and not for a greater one.
func TestProofOfCost(t *testing.T) {
	r := rand.New(rand.NewSource(7))
	for range 1000 {
		w := program(r)
		_, cost, err := branch.Solve(w)
		proof, _ := branch.Prove(w)
		if err == api.ErrPlan {
			if ok, _ := branch.Check(w, proof, true, r.Intn(100)-50); !ok {
				t.Fatal(w, proof)
			}
			continue
		}
		for _, c := range []struct {
			cost int
			want bool
		}{{cost, true}, {cost - 1, true}, {cost - 1000, true}, {math.MinInt, true}, {cost + 1, false}, {math.MaxInt, false}} {
			if ok, err := branch.Check(w, proof, true, c.cost); ok != c.want || err != api.OK {
				t.Fatal(w, proof, c, ok, err)
			}
		}
		if ok, _ := branch.Check(w, proof, false, cost); ok {
			t.Fatal(w, proof)
		}
		if n, _ := branch.Count(w, cost-1); n > 0 {
			t.Fatal(w, n)
		}
	}
}

// Rule 5 and P2
func TestSameProof(t *testing.T) {
	first, _ := branch.Prove(odd)
	second, _ := branch.Prove(odd)
	if !reflect.DeepEqual(first, second) {
		t.Error("two proofs differ")
	}
}
