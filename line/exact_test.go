package line_test

import (
	"math/rand"
	"slices"

	"tinplate/api"
)

// What the tests compute on their own, each thing in another way than the package: cycles and ways by going through all
// that visit no vertex twice, sums of walks by going through all of them, powers one by one.

const no = api.Never

// rows is the square matrix with these entries, row by row.
func rows(entries ...int) [][]int {
	n := 1
	for n*n < len(entries) {
		n++
	}
	var list [][]int
	for row := range slices.Chunk(entries, n) {
		list = append(list, slices.Clone(row))
	}
	return list
}

// filled is the matrix of size n with one number everywhere.
func filled(n, entry int) [][]int {
	return rows(slices.Repeat([]int{entry}, n*n)...)
}

func clone(a [][]int) [][]int {
	var list [][]int
	for _, row := range a {
		list = append(list, slices.Clone(row))
	}
	return list
}

func same(a, b [][]int) bool { return slices.EqualFunc(a, b, slices.Equal[[]int]) }

// need is the value of a call that must succeed.
func need[T any](value T, err api.Errno) T {
	if err != api.OK {
		panic(err)
	}
	return value
}

// add is the sum of two entries.
func add(a, b int) int {
	if a == no || b == no {
		return no
	}
	return a + b
}

// example is the matrix of the chapter's first example.
var example = rows(3, 7, 2, 4)

// ring is the cycle of n arcs from each vertex to the next one, with these entries.
func ring(entries ...int) [][]int {
	n := len(entries)
	a := filled(n, no)
	for j, entry := range entries {
		a[(j+1)%n][j] = entry
	}
	return a
}

// apart has two matrices on its diagonal, and one number everywhere else.
func apart(a, b [][]int, between int) [][]int {
	n := len(a)
	c := filled(n+len(b), between)
	for i, row := range a {
		copy(c[i], row)
	}
	for i, row := range b {
		copy(c[n+i][n:], row)
	}
	return c
}

// someLine has size n, about one in every of its entries, and numbers up to size from zero.
func someLine(r *rand.Rand, n, size, every int) [][]int {
	a := filled(n, no)
	for _, row := range a {
		for j := range row {
			if r.Intn(every) == 0 {
				row[j] = r.Intn(2*size+1) - size
			}
		}
	}
	return a
}

// lines are those that the tests run: of all sizes, full and sparse, with small numbers (that often tie) and large ones.
func lines(seed int64, count int) [][][]int {
	r := rand.New(rand.NewSource(seed))
	list := [][][]int{
		example,
		rows(0), rows(-1), rows(1), rows(no), rows(1000), rows(-1000),
		filled(6, 0), filled(6, no), filled(6, 1000), filled(6, -1000),
		ring(1, 2, 3, 4, 5, 6), ring(1000, -1000, 1000, -1000, 1000, -999),
		apart(ring(1, 2), ring(2, 1, 1), no), apart(ring(1, 2), ring(3, 1, 1, 1), -1000),
		apart(ring(5, 1), rows(3), -2), apart(ring(3, 3), ring(2, 3, 4), -7), apart(ring(0, 0, 0), ring(0, 0, 0), -1),
	}
	for i := range count {
		size := []int{0, 1, 2, 5, 1000}[i%5]
		list = append(list, someLine(r, 1+r.Intn(api.MaxEvents), size, 1+r.Intn(3)))
	}
	return list
}

// connectedLines are those of lines that are connected and have a cycle.
func connectedLines(seed int64, count int) [][][]int {
	var list [][][]int
	for _, a := range lines(seed, count) {
		if connectedOf(a) && len(loopsOf(a)) > 0 {
			list = append(list, a)
		}
	}
	return list
}

// way is a walk that visits no vertex twice, but that may end where it began, and the sum of its entries.
type way struct {
	list []int
	sum  int
}

// waysFrom are all ways from a vertex to vertices from least on; those that are closed are cycles.
func waysFrom(a [][]int, from, least int) (open, closed []way) {
	var walk func(w way)
	walk = func(w way) {
		open = append(open, w)
		at := w.list[len(w.list)-1]
		if a[from][at] != no {
			closed = append(closed, way{w.list, w.sum + a[from][at]})
		}
		for next := least; next < len(a); next++ {
			if a[next][at] != no && !slices.Contains(w.list, next) {
				walk(way{append(slices.Clone(w.list), next), w.sum + a[next][at]})
			}
		}
	}
	walk(way{[]int{from}, 0})
	return open, closed
}

// loopsOf are all cycles that visit no vertex twice, each from its least vertex on.
func loopsOf(a [][]int) []way {
	var list []way
	for from := range a {
		_, closed := waysFrom(a, from, from)
		list = append(list, closed...)
	}
	return list
}

// bestOf is the greatest sum of a way from j to i.
func bestOf(a [][]int, i, j int) int {
	best := no
	open, _ := waysFrom(a, j, 0)
	for _, w := range open {
		if w.list[len(w.list)-1] == i {
			best = max(best, w.sum)
		}
	}
	return best
}

// compare compares the means of two cycles.
func compare(v, w way) int { return v.sum*len(w.list) - w.sum*len(v.list) }

// fastest are the cycles of the greatest mean.
func fastest(a [][]int) []way {
	var best []way
	for _, w := range loopsOf(a) {
		if len(best) == 0 || compare(w, best[0]) > 0 {
			best = nil
		}
		if len(best) == 0 || compare(w, best[0]) == 0 {
			best = append(best, w)
		}
	}
	return best
}

// paceOf is a rational number in lowest terms.
func paceOf(num, den int) api.Pace {
	for d := den; d > 1; d-- {
		if num%d == 0 && den%d == 0 {
			return api.Pace{Num: num / d, Den: den / d}
		}
	}
	return api.Pace{Num: num, Den: den}
}

// speedOf is the greatest mean of a line that has a cycle.
func speedOf(a [][]int) api.Pace {
	w := fastest(a)[0]
	return paceOf(w.sum, len(w.list))
}

// levelOf is a in units of 1 / Den, less Num.
func levelOf(a [][]int) [][]int {
	pace := speedOf(a)
	b := clone(a)
	for _, row := range b {
		for j, entry := range row {
			if entry != no {
				row[j] = pace.Den*entry - pace.Num
			}
		}
	}
	return b
}

func connectedOf(a [][]int) bool {
	for i := range a {
		for j := range a {
			if bestOf(a, i, j) == no {
				return false
			}
		}
	}
	return true
}

// criticalOf are the vertices of the cycles of the greatest mean.
func criticalOf(a [][]int) []int {
	var list []int
	for _, w := range fastest(a) {
		list = append(list, w.list...)
	}
	slices.Sort(list)
	return slices.Compact(list)
}

// productOf is the product of two matrices.
func productOf(a, b [][]int) [][]int {
	c := filled(len(a), no)
	for i := range a {
		for j := range a {
			for k := range a {
				c[i][j] = max(c[i][j], add(a[i][k], b[k][j]))
			}
		}
	}
	return c
}

// identityOf is the power 0.
func identityOf(n int) [][]int {
	a := filled(n, no)
	for i := range a {
		a[i][i] = 0
	}
	return a
}

// appliedOf is a applied to x.
func appliedOf(a [][]int, x []int) []int {
	y := slices.Repeat([]int{no}, len(x))
	for i, row := range a {
		for j, entry := range row {
			y[i] = max(y[i], add(entry, x[j]))
		}
	}
	return y
}

// walkOf is the greatest sum of a walk of k arcs from j to i.
func walkOf(a [][]int, i, j, k int) int {
	if k == 0 {
		return identityOf(len(a))[i][j]
	}
	best := no
	for next := range a {
		if a[next][j] != no {
			best = max(best, add(a[next][j], walkOf(a, i, next, k-1)))
		}
	}
	return best
}

// transposed has the arcs of a the other way round.
func transposed(a [][]int) [][]int {
	b := clone(a)
	for i, row := range a {
		for j, entry := range row {
			b[j][i] = entry
		}
	}
	return b
}

// renumbered is a with the vertex order[i] in the place of i.
func renumbered(a [][]int, order []int) [][]int {
	b := clone(a)
	for i := range a {
		for j := range a {
			b[i][j] = a[order[i]][order[j]]
		}
	}
	return b
}

// raised is a with a number added to its entries.
func raised(a [][]int, by int) [][]int {
	b := clone(a)
	for i, row := range a {
		for j, entry := range row {
			b[i][j] = add(entry, by)
		}
	}
	return b
}

// regimeOf finds the regime by looking at all powers up to a late one, at which the line surely repeats itself.
func regimeOf(a [][]int, late int) (int, int) {
	pace := speedOf(a)
	powers := [][][]int{identityOf(len(a))}
	for len(powers) <= late+60 {
		powers = append(powers, productOf(powers[len(powers)-1], a))
	}
	again := func(m, c int) bool {
		return c*pace.Num%pace.Den == 0 && same(powers[m+c], raised(powers[m], c*pace.Num/pace.Den))
	}
	c := 1
	for !again(late, c) {
		c++
	}
	k := late
	for k > 0 && again(k-1, c) {
		k--
	}
	return c, k
}

// within is a without the arcs that are outside the limits.
func within(a [][]int) [][]int {
	b := clone(a)
	for _, row := range b {
		for j, entry := range row {
			if entry < -api.MaxTime || entry > api.MaxTime {
				row[j] = no
			}
		}
	}
	return b
}
