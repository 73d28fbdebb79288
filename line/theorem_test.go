package line_test

import (
	"math/rand"
	"slices"
	"testing"

	"tinplate/api"
	"tinplate/line"
)

// P5.7
func TestAlgebraTheorem(t *testing.T) {
	r := rand.New(rand.NewSource(21))
	for range 300 {
		n, size, every := 1+r.Intn(6), []int{1, 50, 500}[r.Intn(3)], 1+r.Intn(3)
		a, b, c := someLine(r, n, size, every), someLine(r, n, size, every), someLine(r, n, size, every)
		left := need(line.Multiply(need(line.Multiply(a, b)), c))
		right := need(line.Multiply(a, need(line.Multiply(b, c))))
		if !same(left, right) {
			t.Error(a, b, c, left, right)
		}
	}
	steps := []int{0, 1, 2, 3, 7, 64, 1000, 1 << 19}
	for i, a := range lines(22, 120) {
		x := make([]int, len(a))
		for i := range x {
			x[i] = []int{no, r.Intn(2000) - 1000, r.Intn(api.MaxLong / 4)}[r.Intn(3)]
		}
		for _, j := range steps {
			k := steps[(i+j)%len(steps)]
			whole := need(line.Power(a, j+k))
			if parts := productOf(need(line.Power(a, j)), need(line.Power(a, k))); !same(whole, parts) {
				t.Error(a, j, k, whole, parts)
			}
			far := need(line.Run(a, x, j+k))
			if later := need(line.Run(a, need(line.Run(a, x, j)), k)); !slices.Equal(far, later) {
				t.Error(a, x, j, k, far, later)
			}
		}
	}
}

// P5.8
func TestDualityTheorem(t *testing.T) {
	r := rand.New(rand.NewSource(23))
	for _, a := range lines(24, 300) {
		pace, err := line.Speed(a)
		if other := transposed(a); err != api.OK {
			if _, back := line.Speed(other); back != err {
				t.Error(a, err, back)
			}
			continue
		}
		u := need(line.Potential(a))
		if slices.Min(u) != 0 {
			t.Error(a, u)
		}
		for i, row := range a {
			for j, entry := range row {
				if entry != no && pace.Den*entry-pace.Num+u[j] > u[i] {
					t.Error(a, pace, u, i, j)
				}
			}
		}
		for _, w := range loopsOf(a) {
			if w.sum*pace.Den > pace.Num*len(w.list) {
				t.Error(a, pace, w)
			}
		}
		cycle := need(line.Cycle(a))
		total := 0
		for i, from := range cycle {
			total = add(total, a[cycle[(i+1)%len(cycle)]][from])
		}
		if paceOf(total, len(cycle)) != pace {
			t.Error(a, pace, cycle, total)
		}
		order := r.Perm(len(a))
		if other := need(line.Speed(renumbered(a, order))); other != pace {
			t.Error(a, order, other, pace)
		}
		if other := need(line.Speed(transposed(a))); other != pace {
			t.Error(a, other, pace)
		}
		by := r.Intn(21) - 10
		if more := raised(a, by); same(more, within(more)) {
			if other := need(line.Speed(more)); other != (api.Pace{Num: pace.Num + by*pace.Den, Den: pace.Den}) {
				t.Error(a, by, other, pace)
			}
		}
	}
}

// P5.9
func TestStarTheorem(t *testing.T) {
	found := 0
	for _, a := range lines(25, 600) {
		star, err := line.Star(a)
		if err != api.OK {
			continue
		}
		found++
		longest := identityOf(len(a))
		power := identityOf(len(a))
		for range 40 {
			power = productOf(power, a)
			for i, row := range power {
				for j, entry := range row {
					longest[i][j] = max(longest[i][j], entry)
				}
			}
		}
		if !same(star, longest) {
			t.Error(a, star, longest)
		}
		if same(star, within(star)) && !same(need(line.Multiply(star, star)), star) {
			t.Error(a, star)
		}
		if same(star, within(star)) && !same(need(line.Star(star)), star) {
			t.Error(a, star)
		}
	}
	if found < 100 {
		t.Error(found)
	}
}

// P5.10
func TestEigenTheorem(t *testing.T) {
	r := rand.New(rand.NewSource(26))
	for _, a := range connectedLines(27, 400) {
		pace, v := need(line.Speed(a)), need(line.Eigen(a))
		if slices.Min(v) != 0 {
			t.Error(a, v)
		}
		for i, row := range a {
			best := no
			for j, entry := range row {
				if entry != no {
					best = max(best, pace.Den*entry+v[j])
				}
			}
			if best != pace.Num+v[i] {
				t.Error(a, pace, v, i, best)
			}
		}
		x := make([]int, len(a))
		for i := range x {
			x[i] = r.Intn(4000) - 2000
		}
		least, most := pace.Den*x[0]-v[0], pace.Den*x[0]-v[0] // how far x is from the vector
		for i := range x {
			least, most = min(least, pace.Den*x[i]-v[i]), max(most, pace.Den*x[i]-v[i])
		}
		for _, k := range []int{0, 1, 2, 3, 10, 1001, 1 << 20} {
			for i, y := range need(line.Run(a, x, k)) {
				if off := pace.Den*y - k*pace.Num - v[i]; off < least || off > most {
					t.Error(a, x, k, i, y, least, most)
				}
			}
		}
	}
}

// divisorOf is the greatest common divisor.
func divisorOf(a, b int) int {
	d := a
	for a%d != 0 || b%d != 0 {
		d--
	}
	return d
}

// cyclicity is the least common multiple, over the components of the critical cycles, of the greatest common divisor of
// their numbers of arcs.
func cyclicity(a [][]int) int {
	type component struct{ vertices, divisor int }
	var list []component
	for _, w := range fastest(a) {
		joined := component{0, len(w.list)}
		for _, i := range w.list {
			joined.vertices |= 1 << i
		}
		var rest []component
		for _, c := range list {
			if c.vertices&joined.vertices == 0 {
				rest = append(rest, c)
				continue
			}
			joined.vertices |= c.vertices
			joined.divisor = divisorOf(joined.divisor, c.divisor)
		}
		list = append(rest, joined)
	}
	steps := 1
	for slices.ContainsFunc(list, func(c component) bool { return steps%c.divisor != 0 }) {
		steps++
	}
	return steps
}

// P5.11
func TestCyclicityTheorem(t *testing.T) {
	named := [][][]int{
		apart(ring(1, 2), ring(2, 1, 1), -9),    // one critical ring of two
		apart(ring(0, 0), ring(0, 0, 0), -1),    // two and three
		apart(ring(0, 0), ring(0, 0, 0, 0), -1), // two and four
		apart(ring(0, 0, 0), ring(0, 0, 0), -1), // three twice
		apart(rows(0), ring(0, 0, 0, 0, 0), -1), // one and five
		apart(ring(0, 0, 0), ring(0, 0, 0), 0),  // one component
		rows(no, 0, 0, 0, no, no, no, 0, no),    // two and three arcs in one component
		filled(6, 0), ring(0, 0, 0, 0, 0, 0),    // all numbers of arcs, and one
		apart(filled(2, no), filled(2, no), 3),                          // two sides
		apart(filled(3, no), filled(3, no), -77),                        // two sides
		rows(no, no, no, 0, 0, no, no, no, no, 0, no, no, 0, no, 0, no), // two and four arcs, some of them shared
	}
	// a ring of six arcs, and one of two and one of three in it
	six := ring(0, 0, 0, 0, 0, 0)
	six[0][1], six[2][4] = 0, 0
	named = append(named, six)
	seen := map[int]bool{}
	for _, a := range append(named, connectedLines(28, 600)...) {
		c, k, err := line.Regime(a)
		if err != api.OK || c != cyclicity(a) {
			t.Error(a, c, k, err, cyclicity(a))
			continue
		}
		seen[c] = true
		pace := need(line.Speed(a))
		for _, m := range []int{k, k + 1, k + 2, k + 3, k + 77, k + 1000} {
			if !same(need(line.Power(a, m+c)), raised(need(line.Power(a, m)), c*pace.Num/pace.Den)) || c*pace.Num%pace.Den != 0 {
				t.Error(a, c, k, m)
			}
		}
		if k > 0 && same(need(line.Power(a, k-1+c)), raised(need(line.Power(a, k-1)), c*pace.Num/pace.Den)) {
			t.Error(a, c, k)
		}
	}
	for _, c := range []int{1, 2, 3, 4, 5, 6} {
		if !seen[c] {
			t.Error(c)
		}
	}
}
