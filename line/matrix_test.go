package line_test

import (
	"math"
	"math/rand"
	"slices"
	"testing"

	"tinplate/api"
	"tinplate/line"
)

// notLines are no matrices, or have entries outside the limits.
var notLines = [][][]int{
	nil,
	{},
	{nil},
	{{}},
	{{1, 2}},
	{{1}, {2}},
	{{1, 2}, {3}},
	{{1}, {2, 3}},
	{{1, 2}, nil},
	{{1, 2}, {3, 4}, {5, 6}},
	{{1, 2}, {3, 4, 5}},
	filled(7, 0),
	filled(7, no),
	make([][]int, 6),
	make([][]int, 1000),
	rows(1001),
	rows(-1001),
	rows(0, 0, 0, 1001),
	rows(0, 0, 0, -1001),
	rows(0, 1001, 0, 0),
	rows(no - 1),
	rows(no + 1),
	rows(-no),
	rows(api.MaxLong),
	rows(-api.MaxLong),
	rows(math.MinInt),
	rows(math.MaxInt),
	rows(0, 0, math.MinInt, 0),
	rows(0, 0, math.MaxInt, 0),
}

// notCounts are no numbers of steps.
var notCounts = []int{-1, -2, 1<<20 + 1, math.MinInt, math.MaxInt}

// failures are the errors of all functions for a, with whether each of them returned zero values.
func failures(a [][]int) ([]api.Errno, bool) {
	m, e1 := line.Multiply(a, a)
	p, e2 := line.Power(a, 1)
	x, e3 := line.Run(a, make([]int, len(a)), 1)
	pace, e4 := line.Speed(a)
	cycle, e5 := line.Cycle(a)
	u, e6 := line.Potential(a)
	star, e7 := line.Star(a)
	ok, e8 := line.Connected(a)
	list, e9 := line.Critical(a)
	v, e10 := line.Eigen(a)
	c, k, e11 := line.Regime(a)
	zero := len(m)+len(p)+len(x)+len(cycle)+len(u)+len(star)+len(list)+len(v) == 0 &&
		pace == api.Pace{} && !ok && c == 0 && k == 0
	return []api.Errno{e1, e2, e3, e4, e5, e6, e7, e8, e9, e10, e11}, zero
}

// P5.1 to P5.6: the error that comes first.
func TestArguments(t *testing.T) {
	for _, a := range notLines {
		errs, zero := failures(a)
		if !zero || slices.ContainsFunc(errs, func(err api.Errno) bool { return err != api.ErrArg }) {
			t.Error(a, errs, zero)
		}
	}
	check := func(c [][]int, err api.Errno) {
		t.Helper()
		if len(c) != 0 || err != api.ErrArg {
			t.Error(c, err)
		}
	}
	for _, a := range notLines {
		check(line.Multiply(a, example))
		check(line.Multiply(example, a))
		check(line.Power(a, 0))
		check(line.Power(a, -1))
	}
	for n := 1; n <= 6; n++ {
		for m := 1; m <= 6; m++ {
			if c, err := line.Multiply(filled(n, 0), filled(m, 0)); (n == m) != (err == api.OK) || n != m && (len(c) != 0 || err != api.ErrArg) {
				t.Error(n, m, c, err)
			}
		}
	}
	for _, k := range notCounts {
		check(line.Power(example, k))
	}
}

// P5.1
func TestMultiply(t *testing.T) {
	for _, c := range []struct{ a, b, want [][]int }{
		{example, example, rows(9, 11, 6, 9)},
		{example, identityOf(2), example},
		{identityOf(2), example, example},
		{rows(0, no, no, 0), rows(no, 5, 6, no), rows(no, 5, 6, no)},
		{rows(1, no, no, no), rows(no, 5, 6, no), rows(no, 6, no, no)}, // the order counts
		{rows(no, 5, 6, no), rows(1, no, no, no), rows(no, no, 7, no)},
		{rows(1000), rows(1000), rows(2000)},
		{rows(-1000), rows(-1000), rows(-2000)},
		{rows(no), rows(1000), rows(no)},
		{rows(1000), rows(no), rows(no)},
		{rows(no), rows(no), rows(no)},
		{filled(6, -1000), filled(6, -1000), filled(6, -2000)},
		{filled(6, no), filled(6, 1000), filled(6, no)},
	} {
		if got, err := line.Multiply(c.a, c.b); !same(got, c.want) || err != api.OK {
			t.Error(c, got, err)
		}
	}
	r := rand.New(rand.NewSource(1))
	for range 500 {
		n, size := 1+r.Intn(6), []int{1, 10, 1000}[r.Intn(3)]
		a, b := someLine(r, n, size, 1+r.Intn(4)), someLine(r, n, size, 1+r.Intn(4))
		if got, err := line.Multiply(a, b); !same(got, productOf(a, b)) || err != api.OK {
			t.Error(a, b, got, err)
		}
	}
}

// P5.1
func TestPower(t *testing.T) {
	for _, c := range []struct {
		a    [][]int
		k    int
		want [][]int
	}{
		{example, 0, rows(0, no, no, 0)},
		{example, 1, example},
		{example, 2, rows(9, 11, 6, 9)},
		{rows(no), 0, rows(0)},
		{rows(no), 1, rows(no)},
		{rows(no), 1 << 20, rows(no)},
		{rows(1000), 1 << 20, rows(1000 << 20)},
		{rows(-1000), 1 << 20, rows(-1000 << 20)},
		{rows(-1000), 1<<20 - 1, rows(-1000<<20 + 1000)},
		{filled(6, 1000), 1 << 20, filled(6, 1000<<20)},
		{ring(1, 2, 3), 3, rows(6, no, no, no, 6, no, no, no, 6)},
		{ring(1, 2, 3), 1<<20 - 1, rows(6*349525, no, no, no, 6*349525, no, no, no, 6*349525)},
		{rows(no, 3, no, no), 2, filled(2, no)}, // an arc and no cycle
	} {
		if got, err := line.Power(c.a, c.k); !same(got, c.want) || err != api.OK {
			t.Error(c, got, err)
		}
	}
	r := rand.New(rand.NewSource(2))
	for _, a := range lines(3, 60) {
		power := identityOf(len(a))
		for k := range 70 {
			if got, err := line.Power(a, k); !same(got, power) || err != api.OK {
				t.Error(a, k, got, err)
			}
			power = productOf(power, a)
		}
	}
	for range 40 {
		a := someLine(r, 1+r.Intn(3), 5, 1+r.Intn(2))
		for k := range 6 {
			got := need(line.Power(a, k))
			for i := range a {
				for j := range a {
					if want := walkOf(a, i, j, k); got[i][j] != want {
						t.Error(a, k, i, j, got, want)
					}
				}
			}
		}
	}
}

// P5.1
func TestRun(t *testing.T) {
	half := api.MaxLong / 2
	for _, c := range []struct {
		a    [][]int
		x    []int
		k    int
		want []int
		err  api.Errno
	}{
		{example, []int{0, 0}, 0, []int{0, 0}, api.OK},
		{example, []int{0, 0}, 1, []int{7, 4}, api.OK},
		{example, []int{0, 0}, 2, []int{11, 9}, api.OK},
		{example, []int{5, 2}, 1 << 20, []int{9<<19 + 5, 9<<19 + 2}, api.OK},
		{example, []int{no, 0}, 1, []int{7, 4}, api.OK},
		{example, []int{0, no}, 1, []int{3, 2}, api.OK},
		{example, []int{no, no}, 3, []int{no, no}, api.OK},
		{rows(no, 3, no, no), []int{1, 2}, 1, []int{5, no}, api.OK},
		{rows(no, 3, no, no), []int{1, 2}, 2, []int{no, no}, api.OK},
		{rows(no), []int{0}, 0, []int{0}, api.OK},
		{rows(0), []int{half}, 7, []int{half}, api.OK},
		{rows(1000), []int{half}, 1 << 20, []int{half + 1000<<20}, api.OK},
		{rows(0), []int{-api.MaxLong}, 1 << 20, []int{-api.MaxLong}, api.OK},
		{rows(1000), []int{-api.MaxLong}, 1, []int{1000 - api.MaxLong}, api.OK},
		{rows(-1), []int{-api.MaxLong}, 0, []int{-api.MaxLong}, api.OK},
		{rows(-1), []int{-api.MaxLong}, 1, nil, api.ErrRange},
		{rows(-1), []int{1 - api.MaxLong}, 1, []int{-api.MaxLong}, api.OK},
		{rows(-1), []int{1 - api.MaxLong}, 2, nil, api.ErrRange},
		{rows(-1000), []int{-api.MaxLong}, 1 << 20, nil, api.ErrRange},
		{rows(-1000), []int{no}, 1 << 20, []int{no}, api.OK},
		{rows(0, -1, 0, -1), []int{0, -api.MaxLong}, 1, []int{0, 0}, api.OK}, // only the result counts
		{rows(0, no, no, -1), []int{0, -api.MaxLong}, 1, nil, api.ErrRange},
		{rows(-1, no, no, 0), []int{-api.MaxLong, 0}, 1, nil, api.ErrRange},
		{rows(1, -1000, -1000, -500), []int{no, -api.MaxLong}, 3, []int{-api.MaxLong - 998, -api.MaxLong - 1500}, api.ErrRange},
		{rows(-1, 2, no, no), []int{-api.MaxLong, -api.MaxLong}, 1, []int{2 - api.MaxLong, no}, api.OK},
		{rows(0), []int{half + 1}, 0, nil, api.ErrArg},
		{rows(0), []int{-api.MaxLong - 1}, 0, nil, api.ErrArg},
		{rows(0), []int{api.MaxLong}, 0, nil, api.ErrArg},
		{rows(0), []int{no + 1}, 0, nil, api.ErrArg},
		{rows(0), []int{no - 1}, 0, nil, api.ErrArg},
		{rows(0), []int{math.MinInt}, 0, nil, api.ErrArg},
		{rows(0), []int{math.MaxInt}, 0, nil, api.ErrArg},
		{rows(0), nil, 0, nil, api.ErrArg},
		{rows(0), []int{0, 0}, 0, nil, api.ErrArg},
		{example, []int{0}, 1, nil, api.ErrArg},
		{example, []int{0, 0, 0}, 1, nil, api.ErrArg},
		{example, []int{0, half + 1}, 1, nil, api.ErrArg},
		{rows(-1, no, no, -1), []int{-api.MaxLong, half + 1}, 1, nil, api.ErrArg},
	} {
		if c.err != api.OK {
			c.want = nil
		}
		if y, err := line.Run(c.a, c.x, c.k); !slices.Equal(y, c.want) || err != c.err {
			t.Error(c, y, err)
		}
	}
	for _, k := range notCounts {
		for _, x := range [][]int{{0, 0}, nil, {-api.MaxLong, -api.MaxLong}} {
			if y, err := line.Run(example, x, k); len(y) != 0 || err != api.ErrArg {
				t.Error(k, x, y, err)
			}
		}
	}
	r := rand.New(rand.NewSource(4))
	for _, a := range lines(5, 100) {
		x := make([]int, len(a))
		for i := range x {
			x[i] = []int{no, r.Intn(100), r.Intn(half), -r.Intn(half)}[r.Intn(4)]
		}
		y := x
		for k := range 30 {
			if got, err := line.Run(a, x, k); !slices.Equal(got, y) || err != api.OK {
				t.Error(a, x, k, got, err)
			}
			y = appliedOf(a, y)
		}
	}
}

// P5.1 to P5.6: arguments stay as they are, and a result is nobody else's.
func TestMemory(t *testing.T) {
	for _, a := range [][][]int{example, rows(-1), rows(0), identityOf(4), filled(6, -3), ring(-1, 0, 1)} {
		before := clone(a)
		x := slices.Repeat([]int{1}, len(a))
		spoil := func(list []int) {
			for i := range list {
				list[i] = 77
			}
		}
		results := func() [][]int {
			var all [][]int
			for _, m := range [][][]int{need(line.Multiply(a, a)), need(line.Power(a, 0)), need(line.Power(a, 1)), need(line.Power(a, 2))} {
				all = append(all, m...)
			}
			if star, err := line.Star(a); err == api.OK {
				all = append(all, star...)
			}
			if v, err := line.Eigen(a); err == api.OK {
				all = append(all, v)
			}
			return append(all, need(line.Run(a, x, 0)), need(line.Run(a, x, 3)), need(line.Cycle(a)), need(line.Potential(a)), need(line.Critical(a)))
		}
		first := results()
		want := clone(first)
		for i, list := range first {
			spoil(list)
			if !same(first[i+1:], want[i+1:]) {
				t.Error(a, i) // a row that shares memory with a later one
			}
		}
		if again := results(); !same(again, want) || !same(a, before) || x[0] != 1 || slices.Max(x) != 1 {
			t.Error(a, before, again, want, x)
		}
	}
}
