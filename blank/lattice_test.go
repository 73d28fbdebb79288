package blank_test

import (
	"math"
	"math/rand"
	"slices"
	"testing"

	"tinplate/api"
	"tinplate/blank"
	"tinplate/convex"
)

// notBlanks are no polygons, or polygons outside the limits of blanks.
var notBlanks = [][]api.Vec{
	nil,
	poly(0, 0, 2, 0),
	poly(0, 0, 1, 0, 2, 0),
	poly(0, 0, 1, 0, 2, 0, 0, 2),
	poly(0, 0, 0, 2, 2, 0),
	poly(2, 0, 0, 2, 0, 0),
	poly(0, 0, 2, 0, 0, 2, 0, 0, 2, 0, 0, 2),
	poly(-1, 0, 2, 0, 0, 2),
	poly(0, -1, 2, 0, 0, 2),
	poly(0, 0, 13, 0, 0, 2),
	poly(0, 0, 2, 0, 0, 13),
	poly(20, 20, 22, 20, 20, 22),
	poly(0, 0, math.MaxInt, 0, 0, math.MaxInt),
	poly(math.MinInt, math.MinInt, math.MaxInt, math.MinInt, 0, math.MaxInt),
	make([]api.Vec, 33),
}

var notGrids = []api.Grid{
	{},
	{A: 0, B: 0, D: 12},
	{A: 12, B: 0, D: 0},
	{A: -12, B: 0, D: 12},
	{A: 12, B: 0, D: -12},
	{A: 401, B: 0, D: 12},
	{A: 12, B: 0, D: 401},
	{A: 12, B: -1, D: 12},
	{A: 12, B: 12, D: 12},
	{A: 1, B: 1, D: 1},
	{A: math.MinInt, B: 0, D: 12},
	{A: 12, B: 0, D: math.MinInt},
	{A: math.MaxInt, B: 0, D: 12},
	{A: 12, B: 0, D: math.MaxInt},
	{A: 12, B: math.MinInt, D: 12},
	{A: math.MaxInt, B: math.MaxInt, D: math.MinInt},
}

// P4.1, P4.2, P4.3
func TestArguments(t *testing.T) {
	sure := api.Grid{A: 12, B: 0, D: 12}
	check := func(p []api.Vec, g api.Grid, w, h int) {
		t.Helper()
		if list, err := blank.Lay(p, g, w, h); len(list) != 0 || err != api.ErrArg {
			t.Error(p, g, w, h, list, err)
		}
	}
	both := func(p []api.Vec, g api.Grid) {
		t.Helper()
		if ok, err := blank.Admissible(p, g); ok || err != api.ErrArg {
			t.Error(p, g, ok, err)
		}
		if v, err := blank.Witness(p, g); v != vec(0, 0) || err != api.ErrArg {
			t.Error(p, g, v, err)
		}
		check(p, g, 12, 12)
		check(p, g, 0, 12)
	}
	for _, p := range notBlanks {
		both(p, sure)
		both(p, api.Grid{})
		if g, err := blank.Densest(p); g != (api.Grid{}) || err != api.ErrArg {
			t.Error(p, g, err)
		}
	}
	for _, g := range notGrids {
		both(triangle, g)
	}
	for _, n := range []int{0, -1, 101, math.MinInt, math.MaxInt} {
		check(triangle, sure, n, 12)
		check(triangle, sure, 12, n)
	}
	for _, g := range []api.Grid{{A: 1, B: 0, D: 1}, {A: 1, B: 2, D: 3}, {A: 400, B: 0, D: 1}, {A: 1, B: 0, D: 400}} {
		check(triangle, g, 12, 12) // not admissible
	}
}

// P4.1
func TestWitness(t *testing.T) {
	for _, c := range []struct {
		p    []api.Vec
		g    api.Grid
		want api.Vec
		err  api.Errno
	}{
		{square, api.Grid{A: 1, B: 0, D: 1}, vec(0, 0), api.ErrPlan}, // they touch
		{triangle, api.Grid{A: 1, B: 1, D: 3}, vec(0, 0), api.ErrPlan},
		{triangle, api.Grid{A: 1, B: 0, D: 1}, vec(1, 0), api.OK}, // of four of the same length
		{triangle, api.Grid{A: 2, B: 0, D: 1}, vec(0, 1), api.OK},
		{triangle, api.Grid{A: 1, B: 2, D: 3}, vec(1, -1), api.OK},
		{triangle, api.Grid{A: 400, B: 399, D: 400}, vec(0, 0), api.ErrPlan},
		{large, api.Grid{A: 12, B: 5, D: 12}, vec(0, 0), api.ErrPlan},
		{large, api.Grid{A: 11, B: 11, D: 400}, vec(11, 11), api.OK},
		{large, api.Grid{A: 11, B: 389, D: 400}, vec(11, -11), api.OK},
		{large, api.Grid{A: 5, B: 5, D: 10}, vec(5, 5), api.OK}, // the lexicographically greatest of four
		{large, api.Grid{A: 400, B: 0, D: 11}, vec(0, 11), api.OK},
		{large, api.Grid{A: 11, B: 0, D: 400}, vec(11, 0), api.OK},
		{large, api.Grid{A: 400, B: 0, D: 12}, vec(0, 0), api.ErrPlan},
		{aside, api.Grid{A: 1, B: 0, D: 1}, vec(1, 0), api.OK},
	} {
		if v, err := blank.Witness(c.p, c.g); v != c.want || err != c.err {
			t.Error(c, v, err)
		}
		if ok, err := blank.Admissible(c.p, c.g); ok != (c.err == api.ErrPlan) || err != api.OK {
			t.Error(c, ok, err)
		}
	}
}

// P4.1
func TestWitnessOfAll(t *testing.T) {
	r := rand.New(rand.NewSource(2))
	for _, p := range blanks() {
		all := crashes(p)
		grids := gridsUpTo(12)
		for range 150 {
			grids = append(grids, someGrid(r, 20), someGrid(r, api.MaxGrid))
		}
		for _, g := range grids {
			want, found := witnessOf(all, vectorsOf(g))
			v, err := blank.Witness(p, g)
			if v != want || found != (err == api.OK) || !found && err != api.ErrPlan {
				t.Error(p, g, v, err, want)
			}
			if ok, err := blank.Admissible(p, g); ok == found || err != api.OK {
				t.Error(p, g, ok, err)
			}
		}
	}
}

// P4.2
func TestDensest(t *testing.T) {
	for _, c := range []struct {
		p []api.Vec
		g api.Grid
	}{
		{square, api.Grid{A: 1, B: 0, D: 1}},
		{triangle, api.Grid{A: 1, B: 1, D: 3}},
		{poly(0, 0, 3, 0, 3, 1, 0, 1), api.Grid{A: 1, B: 1, D: 3}},
		{poly(0, 0, 1, 0, 1, 3, 0, 3), api.Grid{A: 1, B: 0, D: 3}},
		{large, api.Grid{A: 1, B: 12, D: 144}},
		{poly(11, 11, 12, 11, 12, 12), api.Grid{A: 1, B: 0, D: 1}},
	} {
		if g, err := blank.Densest(c.p); g != c.g || err != api.OK {
			t.Error(c, g, err)
		}
	}
	grids := gridsUpTo(144)
	var vectors [][]api.Vec
	for _, g := range grids {
		vectors = append(vectors, vectorsOf(g))
	}
	for _, p := range blanks() {
		all := crashes(p)
		at := slices.IndexFunc(vectors, func(list []api.Vec) bool {
			return !slices.ContainsFunc(list, func(v api.Vec) bool { return all[v] })
		})
		if g, err := blank.Densest(p); g != grids[at] || err != api.OK {
			t.Error(p, g, err, grids[at])
		}
	}
}

// P4.3
func TestLay(t *testing.T) {
	dense := api.Grid{A: 1, B: 1, D: 3}
	wide := api.Grid{A: 400, B: 399, D: 400}
	for _, c := range []struct {
		p    []api.Vec
		g    api.Grid
		w, h int
		want []api.Vec
	}{
		{triangle, dense, 2, 2, poly(0, 0)},
		{triangle, dense, 3, 2, poly(0, 0)}, // by the offset 0 0, as many as by 0 2
		{triangle, dense, 4, 2, poly(0, 0)},
		{triangle, dense, 5, 2, poly(0, 0, 3, 0)},
		{triangle, dense, 3, 3, poly(0, 0, 1, 1)},
		{triangle, dense, 1, 100, nil},
		{triangle, dense, 100, 1, nil},
		{triangle, wide, 100, 100, poly(0, 0)},
		{square, api.Grid{A: 1, B: 0, D: 1}, 1, 1, poly(0, 0)},
		{square, api.Grid{A: 1, B: 0, D: 1}, 2, 2, poly(0, 0, 1, 0, 0, 1, 1, 1)},
		{square, api.Grid{A: 2, B: 1, D: 3}, 3, 4, poly(0, 0, 2, 1, 0, 3)},
		{square, wide, 1, 1, poly(0, 0)},
		{aside, wide, 2, 3, poly(-10, -9)}, // its vectors are those beside the offset
		{aside, wide, 4, 5, poly(-10, -9)}, // offsets from 390 390 on
		{aside, wide, 1, 3, nil},
		{aside, wide, 13, 13, poly(0, 0)},
		{large, api.Grid{A: 12, B: 0, D: 12}, 24, 12, poly(0, 0, 12, 0)},
		{large, api.Grid{A: 12, B: 0, D: 12}, 11, 100, nil},
	} {
		if list, err := blank.Lay(c.p, c.g, c.w, c.h); !slices.Equal(list, c.want) || err != api.OK {
			t.Error(c, list, err)
		}
	}
	if list, err := blank.Lay(triangle, dense, 6, 6); len(list) != 9 || err != api.OK {
		t.Error(list, err)
	}
	if list, err := blank.Lay(square, api.Grid{A: 1, B: 0, D: 1}, 100, 100); len(list) != 10000 || err != api.OK {
		t.Error(len(list), err)
	}
}

// P4.3
func TestLayOfAll(t *testing.T) {
	r := rand.New(rand.NewSource(3))
	for i, p := range blanks() {
		grids := []api.Grid{need(blank.Densest(p))}
		for range 40 {
			grids = append(grids, someGrid(r, 30))
		}
		for _, g := range grids {
			w, h := 1+r.Intn(30), 1+r.Intn(30)
			if i%4 == 0 && g == grids[0] {
				w, h = 100-r.Intn(2), 100-r.Intn(2)
			}
			want, reason := layOf(p, g, w, h), api.OK
			if !need(blank.Admissible(p, g)) {
				want, reason = nil, api.ErrArg
			}
			if list, err := blank.Lay(p, g, w, h); !slices.Equal(list, want) || err != reason {
				t.Error(p, g, w, h, list, err, want)
			}
		}
	}
}

// P4.1, P4.2, P4.3: arguments stay as they are, and a result is nobody else's.
func TestLatticeMemory(t *testing.T) {
	for _, p := range blanks() {
		before := slices.Clone(p)
		g := need(blank.Densest(p))
		ok := need(blank.Admissible(p, g))
		_, err := blank.Witness(p, g)
		list := need(blank.Lay(p, g, 50, 40))
		want := slices.Clone(list)
		for i := range list {
			list[i] = vec(-1, -1)
		}
		if again := need(blank.Lay(p, g, 50, 40)); !slices.Equal(again, want) || len(again) == 0 {
			t.Error(p, again, want)
		}
		if !slices.Equal(p, before) || !ok || err != api.ErrPlan || !convex.Valid(p) {
			t.Error(p, before, ok, err)
		}
	}
}
