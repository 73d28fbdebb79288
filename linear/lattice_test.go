package linear_test

import (
	"math"
	"math/rand"
	"reflect"
	"slices"
	"testing"

	"tinplate/api"
	"tinplate/linear"
)

func sameLists(a, b [][]int) bool { return slices.EqualFunc(a, b, slices.Equal[[]int]) }

func unitRows(n int) [][]int {
	list := make([][]int, n)
	for i := range list {
		list[i] = make([]int, n)
		list[i][i] = 1
	}
	return list
}

// full is a list of m rows of width n that have that number everywhere.
func full(m, n, x int) [][]int {
	list := make([][]int, m)
	for i := range list {
		list[i] = slices.Repeat([]int{x}, n)
	}
	return list
}

// invalidRows are the lists that are not valid for their widths.
var invalidRows = []struct {
	rows [][]int
	n    int
}{
	{nil, 0}, {nil, -1}, {nil, 7}, {nil, math.MinInt}, {nil, math.MaxInt},
	{full(1, 7, 1), 7}, {full(7, 1, 1), 1}, {full(1, 2, 1), 1}, {full(1, 2, 1), 3}, {[][]int{{1, 2}, {3}}, 2},
	{[][]int{nil}, 1}, {[][]int{{}}, 0}, {[][]int{{31}}, 1}, {[][]int{{-31}}, 1}, {[][]int{{1, 2}, {3, 31}}, 2},
	{[][]int{{math.MinInt}}, 1}, {[][]int{{math.MaxInt}}, 1},
}

// P1.1
func TestHermite(t *testing.T) {
	for _, c := range []struct {
		rows [][]int
		n    int
		want [][]int
	}{
		{nil, 1, nil},
		{[][]int{{0, 0}, {0, 0}}, 2, nil},
		{[][]int{{4, 6}, {6, 9}}, 2, [][]int{{2, 3}}},
		{[][]int{{2, 1}, {0, 3}, {4, 2}}, 2, [][]int{{2, 1}, {0, 3}}},
		{[][]int{{2, 3, 5}, {4, 1, 0}, {0, 0, -7}}, 3, [][]int{{2, 3, 5}, {0, 5, 3}, {0, 0, 7}}},
		{[][]int{{-30}}, 1, [][]int{{30}}},
		{[][]int{{0, -4}, {0, 6}}, 2, [][]int{{0, 2}}},
		{[][]int{{0, 3}, {1, -1}}, 2, [][]int{{1, 2}, {0, 3}}},
		{full(6, 6, -30), 6, full(1, 6, 30)},
		{[][]int{{6}, {10}, {15}}, 1, [][]int{{1}}},
	} {
		if h, err := linear.Hermite(c.rows, c.n); !sameLists(h, c.want) || err != api.OK {
			t.Error(c.rows, c.n, h, err)
		}
	}
	for _, c := range invalidRows {
		if h, err := linear.Hermite(c.rows, c.n); len(h) > 0 || err != api.ErrArg {
			t.Error(c.rows, c.n, h, err)
		}
	}
}

// P1.1
func TestReduceAndMember(t *testing.T) {
	for _, c := range []struct {
		rows [][]int
		v    []int
		want []int
	}{
		{[][]int{{2, 1}, {0, 3}}, []int{-3, 7}, []int{1, 0}},
		{[][]int{{2, 1}, {0, 3}}, []int{4, 5}, []int{0, 0}},
		{nil, []int{-1000, 1000}, []int{-1000, 1000}},
		{nil, []int{0}, []int{0}},
		{[][]int{{0, 30}}, []int{-1000, -1000}, []int{-1000, 20}},
		{[][]int{{2, 3}}, []int{5, 1}, []int{1, -5}},
	} {
		v, err := linear.Reduce(c.rows, c.v)
		if !slices.Equal(v, c.want) || err != api.OK {
			t.Error(c, v, err)
		}
		none := !slices.ContainsFunc(c.want, func(x int) bool { return x != 0 })
		if is, err := linear.Member(c.rows, c.v); is != none || err != api.OK {
			t.Error(c, is, err)
		}
	}
	refused := func(rows [][]int, v []int) {
		if w, err := linear.Reduce(rows, v); len(w) > 0 || err != api.ErrArg {
			t.Error(rows, v, w, err)
		}
		if is, err := linear.Member(rows, v); is || err != api.ErrArg {
			t.Error(rows, v, is, err)
		}
	}
	for _, c := range invalidRows {
		if 0 <= c.n && c.n <= 10 {
			refused(c.rows, make([]int, c.n))
		}
	}
	for _, x := range []int{1001, -1001, math.MinInt, math.MaxInt} {
		refused([][]int{{1, 2}}, []int{0, x})
	}
}

// P1.1: the same as by plain elimination with numbers of any length.
func TestLatticesAgainstElimination(t *testing.T) {
	r := rand.New(rand.NewSource(1))
	for range 4000 {
		kind, m, n := r.Intn(4), r.Intn(api.MaxRows+1), 1+r.Intn(api.MaxWidth)
		a, v := rows(r, kind, m, n), numbers(r, kind, api.MaxCost, n)
		form := normalForm(a, n)
		if h, err := linear.Hermite(a, n); !sameRows(h, form) || err != api.OK {
			t.Fatal(a, h, err)
		}
		rest := remainder(form, v)
		if w, err := linear.Reduce(a, v); !sameNumbers(w, rest) || err != api.OK {
			t.Fatal(a, v, w, err)
		}
		if is, err := linear.Member(a, v); is != isZero(rest) || err != api.OK {
			t.Fatal(a, v, is, err)
		}
	}
}

// P1.1, P1.2: determinants as large as they can be.
func TestLargestDeterminants(t *testing.T) {
	a := [][]int{
		{1, 1, 1, 1, 1, 1}, {1, -1, 1, 1, -1, -1}, {1, 1, -1, 1, 1, -1},
		{1, -1, 1, -1, 1, 1}, {1, -1, -1, 1, -1, 1}, {1, 1, -1, -1, 1, 1},
	}
	for i := range a {
		for j := range a[i] {
			a[i][j] *= 30
		}
	}
	a[0][0], a[1][1], a[2][2], a[3][3], a[4][4] = 29, -29, -29, -29, -29
	for m := range 7 {
		for n := 1; n < 7; n++ {
			part := make([][]int, m)
			for i := range part {
				part[i] = a[i][:n]
			}
			if h, err := linear.Hermite(part, n); !sameRows(h, normalForm(part, n)) || err != api.OK {
				t.Error(part, h, err)
			}
			checkKernel(t, part, n)
			checkEquations(t, part, slices.Repeat([]int{-1000}, m), n)
		}
	}
}

// P1.2
func TestKernel(t *testing.T) {
	for _, c := range []struct {
		a    [][]int
		n    int
		want [][]int
	}{
		{[][]int{{2, 3}}, 2, [][]int{{3, -2}}},
		{[][]int{{6, 10}}, 2, [][]int{{5, -3}}},
		{nil, 3, unitRows(3)},
		{[][]int{{0, 0}}, 2, unitRows(2)},
		{[][]int{{7}}, 1, nil},
		{[][]int{{1, 0}, {0, 1}}, 2, nil},
		{[][]int{{1, 1, 1}}, 3, [][]int{{1, 0, -1}, {0, 1, -1}}},
		{[][]int{{2, 4, 6}}, 3, [][]int{{1, 1, -1}, {0, 3, -2}}},
	} {
		if k, err := linear.Kernel(c.a, c.n); !sameLists(k, c.want) || err != api.OK {
			t.Error(c, k, err)
		}
	}
	for _, c := range invalidRows {
		if k, err := linear.Kernel(c.rows, c.n); len(k) > 0 || err != api.ErrArg {
			t.Error(c.rows, c.n, k, err)
		}
	}
}

// checkKernel checks that Kernel returns a normal form, that its vectors solve the equations, that there are enough
// of them, and that no integer vector of their space is missing.
func checkKernel(t *testing.T, a [][]int, n int) [][]int {
	t.Helper()
	k, err := linear.Kernel(a, n)
	if err != api.OK || !sameRows(k, normalForm(k, n)) {
		t.Fatal(a, k, err)
	}
	for _, x := range k {
		for _, row := range a {
			if times(row, rationals(api.Point{Num: x, Den: 1})).Sign() != 0 {
				t.Fatal(a, k)
			}
		}
	}
	if len(k)+len(normalForm(a, n)) != n || !commonMinor(k, n).IsInt64() || commonMinor(k, n).Int64() != 1 {
		t.Fatal(a, k)
	}
	return k
}

// P1.2
func TestSolve(t *testing.T) {
	for _, c := range []struct {
		a    [][]int
		b    []int
		n    int
		want []int
		err  api.Errno
	}{
		{[][]int{{6, 10}}, []int{8}, 2, []int{3, -1}, api.OK},
		{[][]int{{6, 10}}, []int{7}, 2, nil, api.ErrPlan},
		{nil, nil, 4, []int{0, 0, 0, 0}, api.OK},
		{[][]int{{0, 0}}, []int{0}, 2, []int{0, 0}, api.OK},
		{[][]int{{0, 0}}, []int{5}, 2, nil, api.ErrPlan},
		{[][]int{{1, 1}, {1, -1}}, []int{1, 2}, 2, nil, api.ErrPlan},
		{[][]int{{1, 1}, {1, -1}}, []int{1, 3}, 2, []int{2, -1}, api.OK},
		{[][]int{{1, 2}, {2, 4}}, []int{1, 3}, 2, nil, api.ErrPlan},
		{[][]int{{1, 2}, {2, 4}}, []int{-1000, -1000}, 2, nil, api.ErrPlan},
		{[][]int{{1, 2}, {1, 2}}, []int{-1000, -1000}, 2, []int{0, -500}, api.OK},
	} {
		if x, err := linear.Solve(c.a, c.b, c.n); !slices.Equal(x, c.want) || err != c.err {
			t.Error(c, x, err)
		}
	}
}

// P1.2, P1.3
func TestInvalidEquations(t *testing.T) {
	refused := func(a [][]int, b []int, n int) {
		if x, err := linear.Solve(a, b, n); len(x) > 0 || err != api.ErrArg {
			t.Error(a, b, n, x, err)
		}
		if y, err := linear.Refute(a, b, n); !reflect.DeepEqual(y, api.Point{}) || err != api.ErrArg {
			t.Error(a, b, n, y, err)
		}
		if linear.Refutes(a, b, n, api.Point{Num: slices.Repeat([]int{1}, len(a)), Den: 2}) {
			t.Error(a, b, n)
		}
	}
	for _, c := range invalidRows {
		refused(c.rows, slices.Repeat([]int{1}, len(c.rows)), c.n)
	}
	two := [][]int{{2}, {2}}
	for _, b := range [][]int{nil, {1}, {1, 2, 3}, {1001, 1}, {1, -1001}, {math.MinInt, 1}, {1, math.MaxInt}} {
		refused(two, b, 1)
	}
	refused(nil, []int{1}, 1)
}

// P1.3
func TestRefutes(t *testing.T) {
	six := [][]int{{6, 10}}
	for _, c := range []struct {
		a    [][]int
		b    []int
		n    int
		y    api.Point
		want bool
	}{
		{six, []int{7}, 2, api.Point{Num: []int{1}, Den: 2}, true},
		{six, []int{7}, 2, api.Point{Num: []int{-1}, Den: 2}, true},
		{six, []int{7}, 2, api.Point{Num: []int{3}, Den: 6}, true},
		{six, []int{8}, 2, api.Point{Num: []int{1}, Den: 2}, false},
		{six, []int{7}, 2, api.Point{Num: []int{1}, Den: 3}, false},
		{six, []int{7}, 2, api.Point{Num: []int{1}, Den: 1}, false},
		{six, []int{7}, 2, api.Point{Num: []int{1}, Den: 0}, false},
		{six, []int{7}, 2, api.Point{Num: []int{1}, Den: -2}, false},
		{six, []int{7}, 2, api.Point{Num: []int{1, 0}, Den: 2}, false},
		{six, []int{7}, 2, api.Point{Den: 2}, false},
		{six, []int{7}, 2, api.Point{}, false},
		{six, []int{7}, 2, api.Point{Num: []int{api.MaxDen / 2}, Den: api.MaxDen}, true},
		{six, []int{7}, 2, api.Point{Num: []int{api.MaxDen}, Den: 2 * api.MaxDen}, false},
		{[][]int{{0}}, []int{1}, 1, api.Point{Num: []int{1 - api.MaxDen}, Den: api.MaxDen}, true},
		{[][]int{{0}}, []int{1}, 1, api.Point{Num: []int{-api.MaxDen}, Den: 3}, true},
		{[][]int{{0}}, []int{1}, 1, api.Point{Num: []int{-api.MaxDen - 1}, Den: 3}, false},
		{[][]int{{0}}, []int{1}, 1, api.Point{Num: []int{api.MaxDen + 3}, Den: 3}, false},
		{[][]int{{0}}, []int{1}, 1, api.Point{Num: []int{math.MinInt}, Den: 3}, false},
		{[][]int{{0}}, []int{1}, 1, api.Point{Num: []int{1}, Den: math.MaxInt}, false},
		{[][]int{{0}}, []int{1}, 1, api.Point{Num: []int{1}, Den: math.MinInt}, false},
		{nil, nil, 1, api.Point{Den: 2}, false},
	} {
		if got := linear.Refutes(c.a, c.b, c.n, c.y); got != c.want {
			t.Error(c, got)
		}
	}
}

// P1.3: the same as with numbers of any length.
func TestRefutesAgainstRationals(t *testing.T) {
	r := rand.New(rand.NewSource(2))
	seen := map[bool]int{}
	for range 20000 {
		kind, m, n := r.Intn(4), r.Intn(api.MaxRows+1), 1+r.Intn(api.MaxWidth)
		a, b, y := rows(r, kind, m, n), numbers(r, kind, api.MaxCost, m), point(r, m)
		want := refutes(a, b, n, y)
		seen[want]++
		if got := linear.Refutes(a, b, n, y); got != want {
			t.Fatal(a, b, y, got)
		}
	}
	if seen[true] < 100 || seen[false] < 100 {
		t.Error(seen)
	}
}

// checkEquations checks P1.2, P1.3 and P1.8 for some equations, and reports whether they have a solution.
func checkEquations(t *testing.T, a [][]int, b []int, n int) bool {
	t.Helper()
	x, err := linear.Solve(a, b, n)
	y, refused := linear.Refute(a, b, n)
	if err == api.ErrPlan {
		if refused != api.OK || len(x) > 0 || !inLowestTerms(y) || !refutes(a, b, n, y) || !linear.Refutes(a, b, n, y) {
			t.Fatal(a, b, x, err, y, refused)
		}
		return false
	}
	if err != api.OK || refused != api.ErrPlan || !reflect.DeepEqual(y, api.Point{}) {
		t.Fatal(a, b, x, err, y, refused)
	}
	for i, row := range a {
		if times(row, rationals(api.Point{Num: x, Den: 1})).Cmp(ratio(b[i], 1)) != 0 {
			t.Fatal(a, b, x)
		}
	}
	kernel, _ := linear.Kernel(a, n)
	if !sameNumbers(x, remainder(normalForm(kernel, n), x)) {
		t.Fatal(a, b, x)
	}
	return true
}

// P1.2, P1.3, P1.8 (Kronecker)
func TestEveryEquationIsSolvedOrRefuted(t *testing.T) {
	r := rand.New(rand.NewSource(3))
	seen := map[bool]int{}
	for range 4000 {
		kind, m, n := r.Intn(4), r.Intn(api.MaxRows+1), 1+r.Intn(api.MaxWidth)
		a, b := rows(r, kind, m, n), numbers(r, kind, api.MaxCost, m)
		if r.Intn(2) == 0 {
			small := numbers(r, 1, 3, n)
			for i, row := range a {
				b[i] = 0
				for j, x := range row {
					b[i] += x * small[j]
				}
			}
		}
		checkKernel(t, a, n)
		seen[checkEquations(t, a, b, n)]++
	}
	if seen[true] < 100 || seen[false] < 100 {
		t.Error(seen)
	}
}

// P1.8: no point refutes equations that have a solution.
func TestNothingRefutesWhatHasASolution(t *testing.T) {
	r := rand.New(rand.NewSource(4))
	seen := 0
	for range 20000 {
		m, n := 1+r.Intn(3), 1+r.Intn(3)
		a, b, y := rows(r, 1, m, n), numbers(r, 1, api.MaxCost, m), point(r, m)
		if !linear.Refutes(a, b, n, y) {
			continue
		}
		seen++
		if _, err := linear.Solve(a, b, n); err != api.ErrPlan {
			t.Fatal(a, b, y, err)
		}
	}
	if seen < 100 {
		t.Error(seen)
	}
}

// P1.7
func TestNormalForm(t *testing.T) {
	r := rand.New(rand.NewSource(5))
	for range 3000 {
		n := 1 + r.Intn(3)
		a, b := rows(r, 1, r.Intn(4), n), rows(r, 1, r.Intn(4), n)
		form, _ := linear.Hermite(a, n)
		if again, err := linear.Hermite(form, n); err == api.OK && !sameLists(again, form) {
			t.Fatal(a, form, again)
		}
		other, _ := linear.Hermite(b, n)
		if sameLists(form, other) != (allMembers(a, b) && allMembers(b, a)) {
			t.Fatal(a, b)
		}
		v, w := numbers(r, 1, 3, n), numbers(r, 1, 3, n)
		checkReduce(t, a, v, w)
	}
}

func allMembers(a, b [][]int) bool {
	for _, v := range b {
		if is, _ := linear.Member(a, v); !is {
			return false
		}
	}
	return true
}

func checkReduce(t *testing.T, a [][]int, v, w []int) {
	t.Helper()
	first, _ := linear.Reduce(a, v)
	second, _ := linear.Reduce(a, w)
	if again, err := linear.Reduce(a, first); err == api.OK && !slices.Equal(first, again) {
		t.Fatal(a, v, first, again)
	}
	difference := make([]int, len(v))
	for j := range v {
		difference[j] = v[j] - w[j]
	}
	if is, _ := linear.Member(a, difference); is != slices.Equal(first, second) {
		t.Fatal(a, v, w, first, second)
	}
}

// Rule 4, P2: arguments stay as they are, results are new memory and the same each time.
func TestLatticesShareNoMemory(t *testing.T) {
	a, v, b := [][]int{{1, 2, 3}, {0, 4, 5}}, []int{0, 1, 4}, []int{6, 9}
	for i, of := range []func() [][]int{
		func() [][]int { h, _ := linear.Hermite(a, 3); return h },
		func() [][]int { k, _ := linear.Kernel(a[:1], 3); return k },
		func() [][]int { w, _ := linear.Reduce(nil, v); return [][]int{w} },
		func() [][]int { w, _ := linear.Reduce(a, v); return [][]int{w} },
		func() [][]int { x, _ := linear.Solve(a, b, 3); return [][]int{x} },
		func() [][]int { y, _ := linear.Refute([][]int{{0, 0, 0}, a[1]}, b, 3); return [][]int{y.Num} },
	} {
		list, want := of(), of()
		for k, row := range list {
			if !slices.Equal(row, want[k]) || len(row) == 0 {
				t.Error(i, k, row, want[k])
			}
			row = row[:cap(row)]
			for j := range row {
				row[j] = 77
			}
		}
		if !sameLists(a, [][]int{{1, 2, 3}, {0, 4, 5}}) || !slices.Equal(v, []int{0, 1, 4}) || !slices.Equal(b, []int{6, 9}) {
			t.Fatal(i, a, v, b)
		}
		if again := of(); !sameLists(again, want) {
			t.Error(i, again, want)
		}
	}
}
