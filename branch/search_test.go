package branch_test

import (
	"math"
	"math/rand"
	"reflect"
	"slices"
	"testing"

	"tinplate/api"
	"tinplate/branch"
	"tinplate/linear"
)

// The programs of the chapter's examples, and some at the limits.
var (
	example = api.Whole{A: [][]int{{2, 1}}, B: []int{3}, C: []int{3, 2}, Upper: []int{3, 3}}
	none    = api.Whole{A: [][]int{{2}, {-2}}, B: []int{1, -1}, C: []int{1}, Upper: []int{3}}
	largest = api.Whole{
		A:     slices.Repeat([][]int{{30, 30, 30, 30, 30}}, 6),
		B:     slices.Repeat([]int{1000}, 6),
		C:     []int{1000, 1000, -1000, 1000, 1000},
		Upper: []int{7, 7, 7, 7, 7},
	}
	odd = api.Whole{
		A:     [][]int{{2, 2, 2, 2, 2}, {-2, -2, -2, -2, -2}},
		B:     []int{35, -35},
		C:     []int{5, 4, 3, 2, 1},
		Upper: []int{7, 7, 7, 7, 7},
	}
)

func invalid() []api.Whole {
	row, rows := []int{1}, [][]int{{1}}
	list := []api.Whole{
		{}, {C: row}, {Upper: row},
		{C: row, Upper: []int{1, 1}}, {C: []int{1, 1}, Upper: row},
		{C: make([]int, 6), Upper: make([]int, 6)}, {C: make([]int, 7), Upper: make([]int, 7)},
		{C: []int{1001}, Upper: row}, {C: []int{-1001}, Upper: row},
		{C: []int{math.MinInt}, Upper: row}, {C: []int{math.MaxInt}, Upper: row},
		{C: []int{1, 1}, Upper: []int{1, 8}}, {C: []int{1, 1}, Upper: []int{-1, 1}},
		{C: row, Upper: []int{math.MinInt}}, {C: row, Upper: []int{math.MaxInt}},
		{B: row, C: row, Upper: row}, {A: rows, C: row, Upper: row}, {A: rows, B: []int{1, 1}, C: row, Upper: row},
		{A: rows, B: []int{1001}, C: row, Upper: row}, {A: rows, B: []int{-1001}, C: row, Upper: row},
		{A: rows, B: []int{math.MinInt}, C: row, Upper: row}, {A: rows, B: []int{math.MaxInt}, C: row, Upper: row},
		{A: slices.Repeat(rows, 7), B: make([]int, 7), C: row, Upper: row},
	}
	for _, wrong := range [][]int{nil, {1, 1}, {31}, {-31}, {math.MinInt}, {math.MaxInt}} {
		list = append(list, api.Whole{A: [][]int{{1}, wrong}, B: []int{0, 0}, C: row, Upper: row})
	}
	return list
}

// P2.1, P2.2, P2.3, P2.4
func TestInvalidPrograms(t *testing.T) {
	leaf := []api.Node{{Var: -1, Den: 1}}
	for _, w := range invalid() {
		if x, cost, err := branch.Solve(w); len(x) > 0 || cost != 0 || err != api.ErrArg {
			t.Error(w, x, cost, err)
		}
		if proof, err := branch.Prove(w); len(proof) > 0 || err != api.ErrArg {
			t.Error(w, proof, err)
		}
		for _, proof := range [][]api.Node{nil, leaf, make([]api.Node, api.MaxNodes+1)} {
			if ok, err := branch.Check(w, proof, true, -100000); ok || err != api.ErrArg {
				t.Error(w, len(proof), ok, err)
			}
		}
		if n, err := branch.Count(w, 100000); n != 0 || err != api.ErrArg {
			t.Error(w, n, err)
		}
	}
}

// P2.1
func TestSolve(t *testing.T) {
	for _, c := range []struct {
		w    api.Whole
		want []int
		cost int
		err  api.Errno
	}{
		{example, []int{1, 1}, 5, api.OK},
		{none, nil, 0, api.ErrPlan},
		{odd, nil, 0, api.ErrPlan},
		{largest, []int{6, 7, 7, 7, 7}, 20000, api.OK}, // the sum is 34 at least, of 35
		{api.Whole{C: []int{0}, Upper: []int{0}}, []int{0}, 0, api.OK},
		{api.Whole{C: []int{5, -5}, Upper: []int{7, 7}}, []int{0, 7}, -35, api.OK},
		{api.Whole{C: []int{0, 0, 0, 0, 0}, Upper: []int{7, 7, 7, 7, 7}}, []int{0, 0, 0, 0, 0}, 0, api.OK},
		// of several vectors of one cost the lexicographically least
		{api.Whole{A: [][]int{{1, 1}}, B: []int{3}, C: []int{2, 2}, Upper: []int{7, 7}}, []int{0, 3}, 6, api.OK},
		{api.Whole{A: [][]int{{1, 1}}, B: []int{3}, C: []int{0, 0}, Upper: []int{7, 2}}, []int{1, 2}, 0, api.OK},
		{api.Whole{A: [][]int{{1, 0, 1}}, B: []int{1}, C: []int{1, 0, 1}, Upper: []int{1, 1, 1}}, []int{0, 0, 1}, 1, api.OK},
		// a vector must not exceed Upper, nor be below 0
		{api.Whole{A: [][]int{{1}}, B: []int{7}, C: []int{1}, Upper: []int{7}}, []int{7}, 7, api.OK},
		{api.Whole{A: [][]int{{1}}, B: []int{7}, C: []int{1}, Upper: []int{6}}, nil, 0, api.ErrPlan},
		{api.Whole{A: [][]int{{-1}}, B: []int{0}, C: []int{-1}, Upper: []int{6}}, []int{0}, 0, api.OK},
		{api.Whole{A: [][]int{{-1}}, B: []int{1}, C: []int{-1}, Upper: []int{6}}, nil, 0, api.ErrPlan},
		{api.Whole{A: [][]int{{0}}, B: []int{1}, C: []int{1}, Upper: []int{7}}, nil, 0, api.ErrPlan},
		{api.Whole{A: [][]int{{0}}, B: []int{0}, C: []int{1}, Upper: []int{7}}, []int{0}, 0, api.OK},
		{api.Whole{A: [][]int{{-30}}, B: []int{-1000}, C: []int{-1000}, Upper: []int{7}}, []int{7}, -7000, api.OK},
		// the last row is the one that counts
		{api.Whole{A: [][]int{{1}, {1}, {1}, {1}, {1}, {1}}, B: []int{0, 1, 2, 0, 1, 3}, C: []int{1}, Upper: []int{7}}, []int{3}, 3, api.OK},
	} {
		if x, cost, err := branch.Solve(c.w); !slices.Equal(x, c.want) || cost != c.cost || err != c.err {
			t.Error(c, x, cost, err)
		}
	}
}

// P2.4
func TestCount(t *testing.T) {
	open := api.Whole{C: []int{1, -1, 0, 0, 0}, Upper: []int{7, 7, 7, 7, 7}}
	for _, c := range []struct {
		w    api.Whole
		cost int
		want int
	}{
		{example, 4, 0}, {example, 5, 1}, {example, 6, 3}, {example, 7, 4}, {example, 15, 12}, {example, 1000, 12},
		{example, math.MaxInt, 12}, {example, math.MinInt, 0},
		{none, math.MaxInt, 0}, {odd, 1000, 0},
		{open, -8, 0}, {open, -7, 512}, {open, -6, 1536}, {open, 6, 32768 - 512}, {open, 7, 32768},
		{open, math.MaxInt, 32768}, {open, math.MinInt, 0},
		{api.Whole{C: []int{0}, Upper: []int{0}}, 0, 1}, {api.Whole{C: []int{0}, Upper: []int{0}}, -1, 0},
	} {
		if n, err := branch.Count(c.w, c.cost); n != c.want || err != api.OK {
			t.Error(c, n, err)
		}
	}
}

// P2.1, P2.4, P2.6, P2.8
func TestAllVectors(t *testing.T) {
	r := rand.New(rand.NewSource(1))
	for range 1500 {
		w := program(r)
		costs, best := costsOf(w)
		x, cost, err := branch.Solve(w)
		if best == nil {
			if len(x) > 0 || cost != 0 || err != api.ErrPlan {
				t.Fatal(w, x, cost, err)
			}
		} else if !slices.Equal(x, best) || cost != times(w.C, best) || err != api.OK {
			t.Fatal(w, x, cost, err, best)
		}
		before := 0
		for _, limit := range []int{math.MinInt, cost - 1, cost, cost + 1, cost + 1 + r.Intn(100), cost + 10000, math.MaxInt} {
			n, err := branch.Count(w, limit)
			if n != countOf(costs, limit) || err != api.OK {
				t.Fatal(w, limit, n, err)
			}
			if n < before || best != nil && (limit < cost) != (n == 0) {
				t.Fatal(w, limit, cost, n, before)
			}
			before = n
		}
	}
}

// P2.7
func TestRelaxation(t *testing.T) {
	r := rand.New(rand.NewSource(2))
	met := [4]int{}
	for range 3000 {
		w := program(r)
		p := api.Program{A: w.A, B: w.B, C: w.C}
		_, cost, err := branch.Solve(w)
		x, ended := linear.Minimum(p)
		switch {
		case ended == api.ErrPlan:
			met[0]++
			if err != api.ErrPlan {
				t.Fatal(w, cost, err)
			}
		case ended == api.ErrBound:
			met[1]++
		case err == api.ErrPlan:
			met[2]++
		default:
			met[3]++
			if v, _ := linear.Value(p, x); ratio(v.Num[0], v.Den).Cmp(ratio(cost, 1)) > 0 {
				t.Fatal(w, cost, v)
			}
		}
	}
	if slices.Min(met[:]) < 50 {
		t.Error("too few cases of one kind", met)
	}
}

// Rules 4 and P2: arguments stay as they are, results are new memory, and the same each time.
func TestMemory(t *testing.T) {
	r := rand.New(rand.NewSource(3))
	for range 300 {
		w := program(r)
		before := copyOf(w)
		x, cost, err := branch.Solve(w)
		proof, _ := branch.Prove(w)
		kept, keptProof := slices.Clone(x), copyOfProof(proof)
		branch.Check(w, proof, err == api.OK, cost)
		branch.Count(w, cost)
		if !reflect.DeepEqual(w, before) || !reflect.DeepEqual(proof, keptProof) {
			t.Fatal("an argument was changed", before, w)
		}
		for j := range x {
			x[j] = 99
		}
		for i, node := range proof {
			if !reflect.DeepEqual(node, keptProof[i]) {
				t.Fatal("two leaves share their multipliers", before)
			}
			for k := range node.Y {
				node.Y[k] = 99
			}
			clear(append(node.Y, 99)[len(node.Y):])
		}
		y, _, _ := branch.Solve(w)
		again, _ := branch.Prove(w)
		if !reflect.DeepEqual(w, before) || !slices.Equal(y, kept) || !reflect.DeepEqual(again, keptProof) {
			t.Fatal("a result was not new", before, w, y, again)
		}
	}
}
