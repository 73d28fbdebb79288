package linear_test

import (
	"math"
	"math/big"
	"math/rand"
	"reflect"
	"slices"
	"testing"

	"tinplate/api"
	"tinplate/linear"
)

// Programs that end with an optimum, a contradiction, and a ray.
var (
	example = api.Program{A: [][]int{{1, 2}, {3, 1}}, B: []int{4, 6}, C: []int{1, 1}}
	none    = api.Program{A: [][]int{{-1}}, B: []int{1}, C: []int{1}}
	free    = api.Program{A: [][]int{{-1, 1}}, B: []int{0}, C: []int{-1, 0}}
)

// ends are the four functions that ask for an end.
func ends() []func(api.Program) (api.Point, api.Errno) {
	return []func(api.Program) (api.Point, api.Errno){linear.Minimum, linear.Dual, linear.Farkas, linear.Ray}
}

func invalidPrograms() []api.Program {
	list := []api.Program{
		{}, {C: make([]int, 7)}, {C: []int{1001}}, {C: []int{-1001}}, {C: []int{math.MinInt}}, {C: []int{math.MaxInt}},
		{C: []int{1}, B: []int{1}}, {A: [][]int{{1}}, C: []int{1}}, {A: [][]int{{1}}, B: []int{1, 2}, C: []int{1}},
		{A: [][]int{{1}}, B: []int{1001}, C: []int{1}}, {A: [][]int{{1}}, B: []int{-1001}, C: []int{1}},
		{A: [][]int{{1}}, B: []int{math.MinInt}, C: []int{1}}, {A: [][]int{{1}}, B: []int{1}},
	}
	for _, c := range invalidRows {
		if 0 <= c.n && c.n <= 10 {
			list = append(list, api.Program{A: c.rows, B: make([]int, len(c.rows)), C: make([]int, c.n)})
		}
	}
	return list
}

// improper are points that are not proper for the width 1.
func improper() []api.Point {
	return []api.Point{
		{}, {Den: 1}, {Num: []int{1, 1}, Den: 1}, {Num: []int{1}}, {Num: []int{1}, Den: -1},
		{Num: []int{1}, Den: math.MinInt}, {Num: []int{1}, Den: api.MaxDen + 1}, {Num: []int{1}, Den: math.MaxInt},
		{Num: []int{api.MaxDen + 1}, Den: 1}, {Num: []int{-api.MaxDen - 1}, Den: 1},
		{Num: []int{math.MinInt}, Den: 1}, {Num: []int{math.MaxInt}, Den: 1},
	}
}

// P1.4, P1.5, P1.6
func TestInvalidPrograms(t *testing.T) {
	for _, p := range invalidPrograms() {
		for i, f := range ends() {
			if x, err := f(p); !reflect.DeepEqual(x, api.Point{}) || err != api.ErrArg {
				t.Error(i, p, x, err)
			}
		}
		x := api.Point{Num: make([]int, len(p.C)), Den: 1}
		y := api.Point{Num: make([]int, len(p.A)), Den: 1}
		if v, err := linear.Value(p, x); !reflect.DeepEqual(v, api.Point{}) || err != api.ErrArg {
			t.Error(p, v, err)
		}
		if linear.Feasible(p, x) || linear.Bounds(p, y) {
			t.Error(p)
		}
		d := api.Point{Num: slices.Repeat([]int{1}, len(p.C)), Den: 1}
		if y.Num = slices.Repeat([]int{1}, len(p.A)); linear.Denies(p, y) || linear.Falls(p, d) {
			t.Error(p)
		}
	}
}

// P1.4
func TestMinimum(t *testing.T) {
	for _, c := range []struct {
		p    api.Program
		want api.Point
		err  api.Errno
	}{
		{example, api.Point{Num: []int{8, 6}, Den: 5}, api.OK},
		{none, api.Point{}, api.ErrPlan},
		{free, api.Point{}, api.ErrBound},
		{api.Program{C: []int{0, 1000}}, api.Point{Num: []int{0, 0}, Den: 1}, api.OK},
		{api.Program{C: []int{0, -1}}, api.Point{}, api.ErrBound},
		{api.Program{A: [][]int{{1, 1, 1}}, B: []int{3}, C: []int{2, 2, 2}}, api.Point{Num: []int{0, 0, 3}, Den: 1}, api.OK},
		{api.Program{A: [][]int{{1, 1}}, B: []int{3}, C: []int{0, 0}}, api.Point{Num: []int{0, 3}, Den: 1}, api.OK},
		// both unbounded costs and no feasible point: the latter counts
		{api.Program{A: [][]int{{0}}, B: []int{1}, C: []int{-1}}, api.Point{}, api.ErrPlan},
		{api.Program{A: [][]int{{1, 0}, {-1, 0}}, B: []int{1, 0}, C: []int{0, -1}}, api.Point{}, api.ErrPlan},
		// the first variable can be 0, the second is between the rows
		{api.Program{A: [][]int{{0, 2}, {0, -2}}, B: []int{1, -1}, C: []int{1, -7}}, api.Point{Num: []int{0, 1}, Den: 2}, api.OK},
		{api.Program{A: [][]int{{-30}}, B: []int{-1000}, C: []int{-1000}}, api.Point{Num: []int{100}, Den: 3}, api.OK},
		// many rows through one point
		{api.Program{A: [][]int{{1, 1}, {1, 2}, {2, 1}, {1, 3}, {3, 1}, {-1, -1}}, B: []int{0, 0, 0, 0, 0, 0}, C: []int{-1, -1}},
			api.Point{Num: []int{0, 0}, Den: 1}, api.OK},
	} {
		if x, err := linear.Minimum(c.p); !reflect.DeepEqual(x, c.want) || err != c.err {
			t.Error(c, x, err)
		}
	}
}

// P1.4
func TestValue(t *testing.T) {
	p := api.Program{C: []int{1000, -1000, 1000, 1000, 1000, 1000}}
	for _, c := range []struct {
		p    api.Program
		x    api.Point
		want api.Point
	}{
		{example, api.Point{Num: []int{8, 6}, Den: 5}, api.Point{Num: []int{14}, Den: 5}},
		{example, api.Point{Num: []int{8, -8}, Den: 5}, api.Point{Num: []int{0}, Den: 1}},
		{example, api.Point{Num: []int{3, 3}, Den: 9}, api.Point{Num: []int{2}, Den: 3}},
		{p, api.Point{Num: []int{api.MaxDen, -api.MaxDen, api.MaxDen, api.MaxDen, api.MaxDen, api.MaxDen}, Den: 1},
			api.Point{Num: []int{6000 * api.MaxDen}, Den: 1}},
		{p, api.Point{Num: []int{0, 1, 0, 0, 0, 0}, Den: api.MaxDen}, api.Point{Num: []int{-125}, Den: api.MaxDen / 8}},
	} {
		if v, err := linear.Value(c.p, c.x); !reflect.DeepEqual(v, c.want) || err != api.OK {
			t.Error(c, v, err)
		}
	}
	for _, x := range improper() {
		if v, err := linear.Value(api.Program{C: []int{1}}, x); !reflect.DeepEqual(v, api.Point{}) || err != api.ErrArg {
			t.Error(x, v, err)
		}
	}
}

// P1.5
func TestCheckers(t *testing.T) {
	for _, c := range []struct {
		check func(api.Program, api.Point) bool
		p     api.Program
		x     api.Point
		want  bool
	}{
		{linear.Feasible, example, api.Point{Num: []int{8, 6}, Den: 5}, true},
		{linear.Feasible, example, api.Point{Num: []int{16, 12}, Den: 10}, true},
		{linear.Feasible, example, api.Point{Num: []int{8, 5}, Den: 5}, false},
		{linear.Feasible, example, api.Point{Num: []int{-1, 9}, Den: 1}, false},
		{linear.Feasible, example, api.Point{Num: []int{8, 6, 0}, Den: 5}, false},
		{linear.Feasible, api.Program{C: []int{-1}}, api.Point{Num: []int{0}, Den: api.MaxDen}, true},
		{linear.Bounds, example, api.Point{Num: []int{2, 1}, Den: 5}, true},
		{linear.Bounds, example, api.Point{Num: []int{0, 0}, Den: 1}, true},
		{linear.Bounds, example, api.Point{Num: []int{3, 1}, Den: 5}, false},
		{linear.Bounds, example, api.Point{Num: []int{-1, 0}, Den: 1}, false},
		{linear.Bounds, api.Program{C: []int{0}}, api.Point{Den: 1}, true},
		{linear.Bounds, api.Program{C: []int{1, -1}}, api.Point{Den: 1}, false},
		{linear.Denies, none, api.Point{Num: []int{1}, Den: 1}, true},
		{linear.Denies, none, api.Point{Num: []int{api.MaxDen}, Den: api.MaxDen}, true},
		{linear.Denies, none, api.Point{Num: []int{0}, Den: 1}, false},
		{linear.Denies, none, api.Point{Num: []int{-1}, Den: 1}, false},
		{linear.Denies, api.Program{A: [][]int{{1}}, B: []int{1}, C: []int{1}}, api.Point{Num: []int{1}, Den: 1}, false},
		{linear.Denies, api.Program{A: [][]int{{0}, {0}}, B: []int{1, 1}, C: []int{1}}, api.Point{Num: []int{2, -1}, Den: 1}, false},
		{linear.Denies, api.Program{C: []int{1}}, api.Point{Den: 1}, false},
		{linear.Falls, free, api.Point{Num: []int{1, 1}, Den: 1}, true},
		{linear.Falls, free, api.Point{Num: []int{1, 2}, Den: 7}, true},
		{linear.Falls, free, api.Point{Num: []int{2, 1}, Den: 1}, false},
		{linear.Falls, free, api.Point{Num: []int{0, 1}, Den: 1}, false},
		{linear.Falls, free, api.Point{Num: []int{1, -1}, Den: 1}, false},
		{linear.Falls, api.Program{C: []int{1, -2}}, api.Point{Num: []int{-1, 1}, Den: 1}, false},
		{linear.Falls, api.Program{C: []int{-1}}, api.Point{Num: []int{1}, Den: 1}, true},
		{linear.Falls, api.Program{C: []int{-1}}, api.Point{Num: []int{1, 1}, Den: 1}, false},
	} {
		if got := c.check(c.p, c.x); got != c.want {
			t.Error(c.p, c.x, got)
		}
	}
}

// P1.5: each checker is true of the point 1, 1 of its program, and false of every point that is not proper.
func TestImproperPoints(t *testing.T) {
	for i, c := range []struct {
		check func(api.Program, api.Point) bool
		p     api.Program
	}{
		{linear.Feasible, api.Program{A: [][]int{{0}}, B: []int{0}, C: []int{0}}},
		{linear.Bounds, api.Program{A: [][]int{{0}}, B: []int{0}, C: []int{0}}},
		{linear.Denies, none},
		{linear.Falls, api.Program{A: [][]int{{0}}, B: []int{0}, C: []int{-1}}},
	} {
		for _, x := range []api.Point{{Num: []int{1}, Den: 1}, {Num: []int{api.MaxDen}, Den: 1}, {Num: []int{1}, Den: api.MaxDen}} {
			if !c.check(c.p, x) {
				t.Error(i, x)
			}
		}
		for _, x := range improper() {
			if c.check(c.p, x) {
				t.Error(i, x)
			}
		}
	}
}

// P1.5: the same as with numbers of any length.
func TestCheckersAgainstRationals(t *testing.T) {
	r := rand.New(rand.NewSource(6))
	var seen [4][2]int
	compare := func(i int, got, want bool, p api.Program, x api.Point) {
		if got != want {
			t.Fatal(i, p, x, got)
		}
		if got {
			seen[i][1]++
		} else {
			seen[i][0]++
		}
	}
	for range 30000 {
		p := program(r)
		x, y := point(r, len(p.C)), point(r, len(p.A))
		for _, list := range [][]int{x.Num, y.Num} {
			for i, num := range list {
				if r.Intn(9) > 0 {
					list[i] = max(num, -num)
				}
			}
		}
		compare(0, linear.Feasible(p, x), feasible(p, rationals(x)), p, x)
		compare(1, linear.Bounds(p, y), bounds(p, rationals(y)), p, y)
		compare(2, linear.Denies(p, y), denies(p, rationals(y)), p, y)
		compare(3, linear.Falls(p, x), falls(p, rationals(x)), p, x)
		v, err := linear.Value(p, x)
		if err != api.OK || !inLowestTerms(v) || ratio(v.Num[0], v.Den).Cmp(times(p.C, rationals(x))) != 0 {
			t.Fatal(p, x, v, err)
		}
	}
	for i, n := range seen {
		if n[0] < 100 || n[1] < 100 {
			t.Error(i, n)
		}
	}
}

// P1.6
func TestCertificates(t *testing.T) {
	dual, err := linear.Dual(example)
	if !reflect.DeepEqual(dual, api.Point{Num: []int{2, 1}, Den: 5}) || err != api.OK {
		t.Error(dual, err)
	}
	if y, err := linear.Dual(api.Program{C: []int{3}}); len(y.Num) != 0 || y.Den != 1 || err != api.OK {
		t.Error(y, err)
	}
	if y, err := linear.Farkas(none); !linear.Denies(none, y) || !inLowestTerms(y) || err != api.OK {
		t.Error(y, err)
	}
	if d, err := linear.Ray(free); !linear.Falls(free, d) || !inLowestTerms(d) || err != api.OK {
		t.Error(d, err)
	}
	if d, err := linear.Ray(api.Program{C: []int{-1}}); !reflect.DeepEqual(d, api.Point{Num: []int{1}, Den: 1}) || err != api.OK {
		t.Error(d, err)
	}
	for _, c := range []struct {
		of  func(api.Program) (api.Point, api.Errno)
		p   api.Program
		err api.Errno
	}{
		{linear.Dual, none, api.ErrPlan}, {linear.Dual, free, api.ErrBound},
		{linear.Farkas, example, api.ErrPlan}, {linear.Farkas, free, api.ErrPlan},
		{linear.Ray, example, api.ErrPlan}, {linear.Ray, none, api.ErrPlan},
		{linear.Ray, api.Program{A: [][]int{{0}}, B: []int{1}, C: []int{-1}}, api.ErrPlan},
	} {
		if x, err := c.of(c.p); !reflect.DeepEqual(x, api.Point{}) || err != c.err {
			t.Error(c.p, x, err)
		}
	}
}

// end asks for all ends, checks that exactly one comes, with its certificate, and returns which one (P1.9).
func end(t *testing.T, p api.Program) string {
	t.Helper()
	x, err := linear.Minimum(p)
	y, dualErr := linear.Dual(p)
	f, farkasErr := linear.Farkas(p)
	d, rayErr := linear.Ray(p)
	for _, point := range []api.Point{x, y, f, d} {
		if !inLowestTerms(point) && !reflect.DeepEqual(point, api.Point{}) {
			t.Fatal(p, point)
		}
	}
	switch [4]api.Errno{err, dualErr, farkasErr, rayErr} {
	case [4]api.Errno{api.OK, api.OK, api.ErrPlan, api.ErrPlan}:
		cost := times(p.C, rationals(x))
		if !linear.Feasible(p, x) || !feasible(p, rationals(x)) || !linear.Bounds(p, y) || !bounds(p, rationals(y)) ||
			cost.Cmp(times(p.B, rationals(y))) != 0 {
			t.Fatal(p, x, y)
		}
		return "optimum"
	case [4]api.Errno{api.ErrPlan, api.ErrPlan, api.OK, api.ErrPlan}:
		if !linear.Denies(p, f) || !denies(p, rationals(f)) {
			t.Fatal(p, f)
		}
		return "contradiction"
	case [4]api.Errno{api.ErrBound, api.ErrBound, api.ErrPlan, api.OK}:
		if !linear.Falls(p, d) || !falls(p, rationals(d)) {
			t.Fatal(p, d)
		}
		return "ray"
	}
	t.Fatal(p, err, dualErr, farkasErr, rayErr)
	return ""
}

// P1.4, P1.6, P1.9
func TestEveryProgramHasOneEnd(t *testing.T) {
	r := rand.New(rand.NewSource(7))
	seen := map[string]int{}
	for range 20000 {
		seen[end(t, program(r))]++
	}
	if seen["optimum"] < 1000 || seen["contradiction"] < 1000 || seen["ray"] < 1000 {
		t.Error(seen)
	}
}

// P1.4, P1.9, P1.10: against all vertices. (A feasible program has one, an unbounded one too.)
func TestProgramsAgainstVertices(t *testing.T) {
	r := rand.New(rand.NewSource(8))
	for range 250 {
		p := program(r)
		if r.Intn(2) == 0 {
			// A single cost for all columns, or none, leaves many optima.
			p.C = slices.Repeat([]int{r.Intn(2)}, len(p.C))
		}
		checkVertices(t, p)
	}
}

func checkVertices(t *testing.T, p api.Program) {
	t.Helper()
	which, list := end(t, p), vertices(p)
	if (which == "contradiction") != (len(list) == 0) {
		t.Fatal(p, which)
	}
	if which != "optimum" {
		return
	}
	minimum, _ := linear.Minimum(p)
	least := slices.MinFunc(list, func(x, y []*big.Rat) int {
		if c := times(p.C, x).Cmp(times(p.C, y)); c != 0 {
			return c
		}
		return compare(x, y)
	})
	if compare(rationals(minimum), least) != 0 {
		t.Fatal(p, minimum, least)
	}
}

// P1.9: certificates, wherever they come from, bound what is feasible.
func TestDuality(t *testing.T) {
	r := rand.New(rand.NewSource(9))
	var pairs, denied int
	for range 20000 {
		p := program(r)
		x, y := point(r, len(p.C)), point(r, len(p.A))
		for i, num := range y.Num {
			y.Num[i] = max(num, -num)
		}
		if linear.Denies(p, y) {
			denied++
			if _, err := linear.Minimum(p); err != api.ErrPlan || linear.Feasible(p, x) {
				t.Fatal(p, x, y)
			}
		}
		minimum, err := linear.Minimum(p)
		if err != api.OK || !linear.Bounds(p, y) {
			continue
		}
		pairs++
		cost := times(p.C, rationals(minimum))
		if cost.Cmp(times(p.B, rationals(y))) < 0 || linear.Feasible(p, x) && times(p.C, rationals(x)).Cmp(cost) < 0 {
			t.Fatal(p, x, y)
		}
	}
	if pairs < 100 || denied < 100 {
		t.Error(pairs, denied)
	}
}

// P1.10: small points with the least cost, one by one.
func TestNoOptimumIsLexicographicallyLess(t *testing.T) {
	r := rand.New(rand.NewSource(10))
	seen := 0
	for range 3000 {
		p := api.Program{A: rows(r, 1, r.Intn(4), 3), C: numbers(r, 2, 3, 3)}
		p.B = numbers(r, 1, 3, len(p.A))
		minimum, err := linear.Minimum(p)
		if err != api.OK {
			continue
		}
		value, _ := linear.Value(p, minimum)
		for k := range 7 * 7 * 7 {
			x := api.Point{Num: []int{k / 49, k / 7 % 7, k % 7}, Den: 2}
			v, _ := linear.Value(p, x)
			if !linear.Feasible(p, x) || !reflect.DeepEqual(v, value) {
				continue
			}
			seen++
			if compare(rationals(x), rationals(minimum)) < 0 {
				t.Fatal(p, minimum, x)
			}
		}
	}
	if seen < 1000 {
		t.Error(seen)
	}
}

// P1.4: programs with many rows through one point, on which the rule of the greatest gain may go around in a circle
// (the first is Beale's, in whole numbers).
func TestCycling(t *testing.T) {
	checkVertices(t, api.Program{
		A: [][]int{{-1, 8, 4, -18}, {-1, 6, 1, -3}, {0, 0, -1, 0}},
		B: []int{0, 0, -1},
		C: []int{-3, 20, -2, 12},
	})
	r := rand.New(rand.NewSource(11))
	for range 3000 {
		n := 1 + r.Intn(api.MaxWidth)
		p := api.Program{A: rows(r, 1, api.MaxRows, n), B: make([]int, api.MaxRows), C: numbers(r, 1, 3, n)}
		p.B[0] = r.Intn(2)
		end(t, p)
	}
}

// Rule 4, P2: arguments stay as they are, results are new memory and the same each time.
func TestProgramsShareNoMemory(t *testing.T) {
	for _, p := range []api.Program{example, none, free} {
		p = api.Program{A: [][]int{slices.Clone(p.A[0])}, B: slices.Clone(p.B[:1]), C: slices.Clone(p.C)}
		before := api.Program{A: [][]int{slices.Clone(p.A[0])}, B: slices.Clone(p.B), C: slices.Clone(p.C)}
		for i, f := range ends() {
			x, err := f(p)
			first := slices.Clone(x.Num)
			for j := range x.Num {
				x.Num[j] = 77
			}
			if again, err2 := f(p); !slices.Equal(again.Num, first) || err2 != err || !reflect.DeepEqual(p, before) {
				t.Error(i, p, again, err2)
			}
		}
	}
	x := api.Point{Num: []int{4, 4}, Den: 8}
	linear.Value(example, x)
	linear.Feasible(example, x)
	linear.Bounds(example, x)
	if !reflect.DeepEqual(x, api.Point{Num: []int{4, 4}, Den: 8}) {
		t.Error(x)
	}
}
