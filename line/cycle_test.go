package line_test

import (
	"cmp"
	"slices"
	"testing"

	"tinplate/api"
	"tinplate/line"
)

// P5.2
func TestSpeed(t *testing.T) {
	for _, c := range []struct {
		a     [][]int
		pace  api.Pace
		cycle []int
	}{
		{example, api.Pace{Num: 9, Den: 2}, []int{0, 1}},
		{rows(-1), api.Pace{Num: -1, Den: 1}, []int{0}},
		{rows(0), api.Pace{Num: 0, Den: 1}, []int{0}},
		{filled(6, 1000), api.Pace{Num: 1000, Den: 1}, []int{0}},
		{filled(6, -1000), api.Pace{Num: -1000, Den: 1}, []int{0}},
		{ring(1, 2, 3), api.Pace{Num: 2, Den: 1}, []int{0, 1, 2}},
		{ring(1, 2, 3, 4, 5, 6), api.Pace{Num: 7, Den: 2}, []int{0, 1, 2, 3, 4, 5}},
		{transposed(ring(1, 2, 3, 4, 5, 6)), api.Pace{Num: 7, Den: 2}, []int{0, 5, 4, 3, 2, 1}},
		{ring(-1, -1, -1, -1, -1, 0), api.Pace{Num: -5, Den: 6}, []int{0, 1, 2, 3, 4, 5}},
		{ring(0, 0, 0, 0), api.Pace{Num: 0, Den: 1}, []int{0, 1, 2, 3}},
		{ring(1, -1), api.Pace{Num: 0, Den: 1}, []int{0, 1}},
		{rows(no, no, 5, 3), api.Pace{Num: 3, Den: 1}, []int{1}},                      // an arc that is on no cycle
		{rows(1, 2, 2, 2), api.Pace{Num: 2, Den: 1}, []int{1}},                        // fewer vertices before less
		{rows(1, 3, 1, no), api.Pace{Num: 2, Den: 1}, []int{0, 1}},                    // a vertex without a loop
		{apart(ring(2, 0, 1), ring(0, 2), no), api.Pace{Num: 1, Den: 1}, []int{3, 4}}, // fewer before less
		{apart(ring(0, 2), ring(1, 1), -9), api.Pace{Num: 1, Den: 1}, []int{0, 1}},
		{apart(rows(0), ring(3, 4), 3), api.Pace{Num: 7, Den: 2}, []int{1, 2}},
		{rows(no, 4, 0, 4, no, 4, 4, 0, no), api.Pace{Num: 4, Den: 1}, []int{0, 1}},
		{rows(no, 3, 4, 4, no, 3, 3, 4, no), api.Pace{Num: 4, Den: 1}, []int{0, 1, 2}},
		{rows(no, 4, 3, 3, no, 4, 4, 3, no), api.Pace{Num: 4, Den: 1}, []int{0, 2, 1}},
		{rows(no, 0, 9, 9, no, 0, 0, 0, no), api.Pace{Num: 6, Den: 1}, []int{0, 1, 2}},
	} {
		if pace, err := line.Speed(c.a); pace != c.pace || err != api.OK {
			t.Error(c, pace, err)
		}
		if cycle, err := line.Cycle(c.a); !slices.Equal(cycle, c.cycle) || err != api.OK {
			t.Error(c, cycle, err)
		}
	}
	for _, a := range lines(6, 600) {
		best := fastest(a)
		if len(best) == 0 {
			if pace, err := line.Speed(a); pace != (api.Pace{}) || err != api.ErrPlan {
				t.Error(a, pace, err)
			}
			if cycle, err := line.Cycle(a); len(cycle) != 0 || err != api.ErrPlan {
				t.Error(a, cycle, err)
			}
			continue
		}
		if pace, err := line.Speed(a); pace != speedOf(a) || err != api.OK {
			t.Error(a, pace, err, speedOf(a))
		}
		first := slices.MinFunc(best, func(v, w way) int {
			return cmp.Or(cmp.Compare(len(v.list), len(w.list)), slices.Compare(v.list, w.list))
		})
		if cycle, err := line.Cycle(a); !slices.Equal(cycle, first.list) || err != api.OK {
			t.Error(a, cycle, err, first)
		}
	}
}

// P5.2, P5.3, P5.5, P5.6: what has no cycle.
func TestNoCycle(t *testing.T) {
	for _, a := range [][][]int{rows(no), filled(6, no), rows(no, 1000, no, no), rows(no, no, -1000, no), rows(no, 1, 2, no, no, 3, no, no, no)} {
		errs, _ := failures(a)
		ok, plan := api.OK, api.ErrPlan
		if want := []api.Errno{ok, ok, ok, plan, plan, plan, ok, ok, plan, plan, plan}; !slices.Equal(errs, want) {
			t.Error(a, errs)
		}
	}
}

// P5.3
func TestPotential(t *testing.T) {
	for _, c := range []struct {
		a    [][]int
		want []int
	}{
		{example, []int{5, 0}},
		{rows(-1), []int{0}},
		{rows(1000), []int{0}},
		{filled(6, 1000), []int{0, 0, 0, 0, 0, 0}},
		{ring(0, 0, 6), []int{4, 2, 0}},
		{transposed(example), []int{0, 5}},
		{rows(0, no, 5, 0), []int{0, 5}}, // an arc that is on no cycle
		{rows(0, no, -5, 0), []int{0, 0}},
		{apart(rows(0), rows(no), 1), []int{0, 0}}, // the mean of both arcs is 1
		{rows(1, no, 5, no), []int{0, 4}},
	} {
		if u, err := line.Potential(c.a); !slices.Equal(u, c.want) || err != api.OK {
			t.Error(c, u, err)
		}
	}
	for _, a := range lines(7, 500) {
		u, err := line.Potential(a)
		if len(loopsOf(a)) == 0 {
			if len(u) != 0 || err != api.ErrPlan {
				t.Error(a, u, err)
			}
			continue
		}
		b := levelOf(a)
		want := make([]int, len(a))
		for i := range a {
			for j := range a {
				want[i] = max(want[i], bestOf(b, i, j))
			}
		}
		if !slices.Equal(u, want) || err != api.OK {
			t.Error(a, u, err, want)
		}
	}
}

// P5.4
func TestStar(t *testing.T) {
	for _, c := range []struct {
		a, want [][]int
		err     api.Errno
	}{
		{rows(-1), rows(0), api.OK},
		{rows(0), rows(0), api.OK},
		{rows(1), nil, api.ErrBound},
		{rows(no), rows(0), api.OK},
		{example, nil, api.ErrBound},
		{rows(-3, 5, -5, -4), rows(0, 5, -5, 0), api.OK},
		{rows(-3, 5, -4, -4), nil, api.ErrBound},
		{rows(no, 1000, no, no), rows(0, 1000, no, 0), api.OK}, // no cycle
		{rows(-1000, no, 1000, 0), rows(0, no, 1000, 0), api.OK},
		{filled(6, 0), filled(6, 0), api.OK},
		{filled(6, no), identityOf(6), api.OK},
		{filled(6, 1000), nil, api.ErrBound},
		{apart(rows(1), rows(-1), no), nil, api.ErrBound},
		{apart(filled(5, -1), rows(1), no), nil, api.ErrBound},
		{ring(1000, 1000, 1000, -1000, -1000, -999), nil, api.ErrBound},
		{ring(0, 0, 0, 0, 0, 1), nil, api.ErrBound},
		{ring(1000, 1000, no), rows(0, no, no, 1000, 0, no, 2000, 1000, 0), api.OK},
	} {
		if got, err := line.Star(c.a); !same(got, c.want) || err != c.err {
			t.Error(c, got, err)
		}
	}
	if long := need(line.Star(ring(1000, 1000, 1000, 1000, 1000, no))); long[5][0] != 5000 || long[0][5] != no {
		t.Error(long)
	}
	for i, a := range lines(8, 800) {
		if len(loopsOf(a)) > 0 { // often with a speed of about 0
			pace := speedOf(a)
			a = within(raised(a, i%3-1-pace.Num/pace.Den))
		}
		star, err := line.Star(a)
		if len(loopsOf(a)) > 0 && speedOf(a).Num > 0 {
			if len(star) != 0 || err != api.ErrBound {
				t.Error(a, star, err)
			}
			continue
		}
		want := filled(len(a), no)
		for i := range a {
			for j := range a {
				want[i][j] = bestOf(a, i, j)
			}
		}
		if !same(star, want) || err != api.OK {
			t.Error(a, star, err, want)
		}
	}
}

// P5.5
func TestConnected(t *testing.T) {
	for _, c := range []struct {
		a    [][]int
		want bool
	}{
		{rows(no), true},
		{rows(0), true},
		{example, true},
		{rows(no, 0, 0, no), true},
		{rows(0, 0, no, 0), false},
		{rows(0, no, 0, 0), false},
		{rows(0, no, no, 0), false},
		{filled(6, no), false},
		{filled(6, -1000), true},
		{ring(0, 0, 0, 0, 0, 0), true},
		{ring(0, 0, 0, 0, 0, no), false},
		{ring(no, 0, 0, 0, 0, 0), false},
		{apart(filled(3, 5), filled(3, 5), no), false},
		{apart(filled(3, no), filled(3, no), 5), true},
	} {
		if ok, err := line.Connected(c.a); ok != c.want || err != api.OK {
			t.Error(c, ok, err)
		}
	}
	for _, a := range lines(9, 500) {
		if ok, err := line.Connected(a); ok != connectedOf(a) || err != api.OK {
			t.Error(a, ok, err)
		}
	}
}

// P5.5
func TestCritical(t *testing.T) {
	for _, c := range []struct {
		a    [][]int
		want []int
	}{
		{example, []int{0, 1}},
		{rows(-1), []int{0}},
		{rows(1, no, 5, 0), []int{0}},
		{rows(0, no, 5, 1), []int{1}},
		{rows(1, no, 5, 1), []int{0, 1}},
		{filled(6, 7), []int{0, 1, 2, 3, 4, 5}},
		{apart(rows(5), ring(4, 6, 5), 5), []int{0, 2, 3}},
		{apart(rows(5), ring(4, 6, 5), 4), []int{0, 1, 2, 3}},
		{apart(rows(5), ring(4, 5, 5), 4), []int{0}},
		{apart(ring(4, 5, 5), rows(5), 4), []int{3}},
		{apart(rows(4), ring(4, 6, 5), no), []int{1, 2, 3}},
	} {
		if list, err := line.Critical(c.a); !slices.Equal(list, c.want) || err != api.OK {
			t.Error(c, list, err)
		}
	}
	for _, a := range lines(10, 500) {
		list, err := line.Critical(a)
		want, reason := criticalOf(a), api.OK
		if len(want) == 0 {
			reason = api.ErrPlan
		}
		if !slices.Equal(list, want) || err != reason {
			t.Error(a, list, err, want)
		}
	}
}

// P5.6
func TestEigen(t *testing.T) {
	for _, c := range []struct {
		a    [][]int
		want []int
	}{
		{example, []int{5, 0}},
		{rows(-1), []int{0}},
		{rows(1000), []int{0}},
		{transposed(example), []int{0, 5}},
		{filled(6, -1000), []int{0, 0, 0, 0, 0, 0}},
		{ring(0, 0, 6), []int{4, 2, 0}},
		{rows(0, -3, -5, 0), []int{5, 0}},  // there are others, from 1 on: 0 3
		{rows(-1, -3, -5, 0), []int{0, 3}}, // from 1, the only critical one
	} {
		if v, err := line.Eigen(c.a); !slices.Equal(v, c.want) || err != api.OK {
			t.Error(c, v, err)
		}
	}
	for _, a := range lines(11, 600) {
		v, err := line.Eigen(a)
		if !connectedOf(a) || len(loopsOf(a)) == 0 {
			if len(v) != 0 || err != api.ErrPlan {
				t.Error(a, v, err)
			}
			continue
		}
		b, first := levelOf(a), criticalOf(a)[0]
		var want []int
		for i := range a {
			want = append(want, bestOf(b, i, first))
		}
		least := slices.Min(want)
		for i := range want {
			want[i] -= least
		}
		if !slices.Equal(v, want) || err != api.OK {
			t.Error(a, v, err, want)
		}
	}
}

// P5.6
func TestRegime(t *testing.T) {
	for _, c := range []struct {
		a    [][]int
		c, k int
	}{
		{example, 2, 2},
		{rows(-1), 1, 0},
		{rows(1000), 1, 0},
		{rows(no, 3, 4, no), 2, 0},
		{rows(no, 3, 3, no), 2, 0},
		{filled(6, 5), 1, 1},
		{ring(1, 2, 3, 4, 5, 6), 6, 0},
		{rows(0, -1, -1, -1), 1, 2},
		{rows(0, -1, -1, 0), 1, 1},
		{rows(0, -1, -1, -2), 1, 1},
	} {
		if steps, k, err := line.Regime(c.a); steps != c.c || k != c.k || err != api.OK {
			t.Error(c, steps, k, err)
		}
	}
	for _, a := range lines(12, 500) {
		steps, k, err := line.Regime(a)
		if !connectedOf(a) || len(loopsOf(a)) == 0 {
			if steps != 0 || k != 0 || err != api.ErrPlan {
				t.Error(a, steps, k, err)
			}
			continue
		}
		late := 300
		if k > 150 {
			late = 2*k + 100
		}
		if c, from := regimeOf(a, late); steps != c || k != from || err != api.OK {
			t.Error(a, steps, k, err, c, from)
		}
	}
}

// P5.6: lines that take long until they repeat themselves.
func TestLateRegime(t *testing.T) {
	for _, c := range []struct {
		a        [][]int
		steps, k int
	}{
		{apart(rows(0), rows(-1), -1000), 1, 2000},
		{apart(rows(1000), ring(1000, 1000, 1000, 1000, 999), -1000), 1, 20000},
		{apart(ring(1, 0), ring(0, 1, 0), -1000), 2, 12001},
		{apart(ring(1000, 999, 999), ring(999, 1000), -1000), 2, 23989},
		{apart(apart(rows(0), ring(0, -1), -1000), ring(-1, 0, 0), -999), 1, 5994},
	} {
		if steps, from := regimeOf(c.a, 30000); steps != c.steps || from != c.k {
			t.Error(c, steps, from)
		}
		if steps, k, err := line.Regime(c.a); steps != c.steps || k != c.k || err != api.OK {
			t.Error(c, steps, k, err)
		}
	}
}

// P5.6: connected or not, and with a cycle or not.
func TestRegimeErrors(t *testing.T) {
	for _, a := range [][][]int{rows(no), rows(0, no, 0, 0), filled(6, no), rows(no, 1, no, no), identityOf(6), apart(example, example, no)} {
		if v, err := line.Eigen(a); len(v) != 0 || err != api.ErrPlan {
			t.Error(a, v, err)
		}
		if c, k, err := line.Regime(a); c != 0 || k != 0 || err != api.ErrPlan {
			t.Error(a, c, k, err)
		}
	}
}
