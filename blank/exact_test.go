package blank_test

import (
	"math/rand"
	"slices"

	"tinplate/api"
	"tinplate/convex"
)

// What the tests compute on their own, each thing in another way than the package: collisions by the differences of all
// pairs of vertices, lattices by going through sums of their two vectors, layouts offset by offset, and cutting plans by
// listing all there are.

func vec(x, y int) api.Vec { return api.Vec{X: x, Y: y} }

// poly is the list of the points with these coordinates.
func poly(coordinates ...int) []api.Vec {
	var list []api.Vec
	for i := 0; i < len(coordinates); i += 2 {
		list = append(list, vec(coordinates[i], coordinates[i+1]))
	}
	return list
}

var (
	square   = poly(0, 0, 1, 0, 1, 1, 0, 1) // of the chapter's examples
	triangle = poly(0, 0, 2, 0, 0, 2)       // of the chapter's examples
	large    = poly(0, 0, 12, 0, 12, 12, 0, 12)
	half     = poly(0, 0, 12, 0, 0, 12)
	thin     = poly(0, 0, 12, 11, 12, 12)
	slanted  = poly(1, 0, 3, 1, 5, 5, 2, 3)
	aside    = poly(10, 9, 12, 10, 11, 12)
	round    = poly(4, 0, 5, 0, 7, 1, 8, 2, 9, 4, 9, 5, 8, 7, 7, 8, 5, 9, 4, 9, 2, 8, 1, 7, 0, 5, 0, 4, 1, 2, 2, 1)
)

// blanks are those that the tests lay: plain ones, those at the limits, and some that are made up.
func blanks() [][]api.Vec {
	list := [][]api.Vec{square, triangle, large, half, thin, slanted, aside, round}
	r := rand.New(rand.NewSource(1))
	for i := range 24 {
		list = append(list, someBlank(r, 1+i%api.MaxBlank))
	}
	return list
}

// someBlank is the hull of a few points with coordinates up to size.
func someBlank(r *rand.Rand, size int) []api.Vec {
	for {
		var points []api.Vec
		for range 3 + r.Intn(9) {
			points = append(points, vec(r.Intn(size+1), r.Intn(size+1)))
		}
		if p, err := convex.Hull(points); err == api.OK {
			return p
		}
	}
}

// someGrid is a valid grid.
func someGrid(r *rand.Rand, size int) api.Grid {
	d := 1 + r.Intn(size)
	return api.Grid{A: 1 + r.Intn(size), B: r.Intn(d), D: d}
}

// collide tells whether the translations of p by u and v do: none of the lines through zero and a difference of two of
// their points has all differences on one side.
func collide(p []api.Vec, u, v api.Vec) bool {
	var differences []api.Vec
	for _, a := range p {
		for _, b := range p {
			differences = append(differences, vec(a.X+u.X-b.X-v.X, a.Y+u.Y-b.Y-v.Y))
		}
	}
	for _, s := range differences {
		if s == vec(0, 0) {
			continue
		}
		toLeft, toRight := false, false
		for _, t := range differences {
			toLeft = toLeft || s.X*t.Y > s.Y*t.X
			toRight = toRight || s.X*t.Y < s.Y*t.X
		}
		if !toLeft || !toRight {
			return false
		}
	}
	return true
}

// crashes are all vectors but zero by which p collides with itself, of all that are not much longer than a blank.
func crashes(p []api.Vec) map[api.Vec]bool {
	all := map[api.Vec]bool{}
	for x := -13; x <= 13; x++ {
		for y := -13; y <= 13; y++ {
			v := vec(x, y)
			all[v] = v != vec(0, 0) && collide(p, v, vec(0, 0))
		}
	}
	return all
}

// vectorsOf are the integer sums of the two vectors of g that have coordinates up to 13 from zero.
func vectorsOf(g api.Grid) []api.Vec {
	var list []api.Vec
	for i := -13; i <= 13; i++ {
		for j := -26; j <= 26; j++ {
			if x, y := i*g.A, i*g.B+j*g.D; max(x, -x, y, -y) <= 13 {
				list = append(list, vec(x, y))
			}
		}
	}
	return list
}

// witnessOf is the shortest of the crashes that are vectors of the grid, of several the greatest, and whether there is
// one.
func witnessOf(all map[api.Vec]bool, vectors []api.Vec) (api.Vec, bool) {
	var best api.Vec
	found := false
	for _, v := range vectors {
		n, least := v.X*v.X+v.Y*v.Y, best.X*best.X+best.Y*best.Y
		better := n < least || n == least && (v.X > best.X || v.X == best.X && v.Y > best.Y)
		if all[v] && (!found || better) {
			best, found = v, true
		}
	}
	return best, found
}

// gridsUpTo are all grids with an index up to the last one, in their order.
func gridsUpTo(last int) []api.Grid {
	var list []api.Grid
	for a := 1; a <= last; a++ {
		for d := 1; a*d <= last; d++ {
			for b := range d {
				list = append(list, api.Grid{A: a, B: b, D: d})
			}
		}
	}
	slices.SortFunc(list, func(f, g api.Grid) int {
		if f.A*f.D != g.A*g.D {
			return f.A*f.D - g.A*g.D
		}
		if f.A != g.A {
			return f.A - g.A
		}
		return f.B - g.B
	})
	return list
}

// fits tells whether p moved by v lies on the sheet.
func fits(p []api.Vec, v api.Vec, w, h int) bool {
	for _, u := range p {
		if u.X+v.X < 0 || u.X+v.X > w || u.Y+v.Y < 0 || u.Y+v.Y > h {
			return false
		}
	}
	return true
}

// layoutOf is the layout of one offset, in order.
func layoutOf(p []api.Vec, g api.Grid, o api.Vec, w, h int) []api.Vec {
	var list []api.Vec
	for i := -(12 + g.A) / g.A; i*g.A <= w; i++ {
		for j := -(12+g.D+max(i*g.B, 0))/g.D - 1; j*g.D+i*g.B <= h; j++ {
			if v := vec(o.X+i*g.A, o.Y+i*g.B+j*g.D); fits(p, v, w, h) {
				list = append(list, v)
			}
		}
	}
	slices.SortFunc(list, func(u, v api.Vec) int {
		if u.Y != v.Y {
			return u.Y - v.Y
		}
		return u.X - v.X
	})
	return list
}

// layOf is the layout of the first offset that has the most.
func layOf(p []api.Vec, g api.Grid, w, h int) []api.Vec {
	var best []api.Vec
	for x := range g.A {
		for y := range g.D {
			if list := layoutOf(p, g, vec(x, y), w, h); len(list) > len(best) {
				best = list
			}
		}
	}
	return best
}

func cut(kind, n int) api.Cut { return api.Cut{Kind: kind, N: n} }

// cuts is the plan of these kinds and numbers.
func cuts(numbers ...int) []api.Cut {
	var list []api.Cut
	for i := 0; i < len(numbers); i += 2 {
		list = append(list, cut(numbers[i], numbers[i+1]))
	}
	return list
}

// A planned is a plan and what it is worth.
type planned struct {
	plan   []api.Cut
	value  int
	counts []int
}

// allPlans are all cutting plans for w by h.
func allPlans(w, h int, items []api.Item) []planned {
	all := []planned{{plan: cuts(api.CutWaste, 0), counts: make([]int, len(items))}}
	for i, item := range items {
		if item.W <= w && item.H <= h {
			counts := make([]int, len(items))
			counts[i] = 1
			all = append(all, planned{cuts(api.CutItem, i), item.Value, counts})
		}
	}
	for n := 1; n < w; n++ {
		all = append(all, allPairs(cut(api.CutWide, n), allPlans(n, h, items), allPlans(w-n, h, items))...)
	}
	for n := 1; n < h; n++ {
		all = append(all, allPairs(cut(api.CutHigh, n), allPlans(w, n, items), allPlans(w, h-n, items))...)
	}
	return all
}

// allPairs are the plans that begin with a cut, each of one part with each of the other.
func allPairs(first api.Cut, left, right []planned) []planned {
	var all []planned
	for _, l := range left {
		for _, r := range right {
			counts := slices.Clone(l.counts)
			for i, n := range r.counts {
				counts[i] += n
			}
			all = append(all, planned{slices.Concat([]api.Cut{first}, l.plan, r.plan), l.value + r.value, counts})
		}
	}
	return all
}

// A saw knows the greatest values that it has computed.
type saw struct {
	items []api.Item
	known map[[2]int]int
}

// value is the greatest of any plan for w by h, of all its cuts.
func (s saw) value(w, h int) int {
	if v, ok := s.known[[2]int{w, h}]; ok {
		return v
	}
	best := 0
	for _, item := range s.items {
		if item.W <= w && item.H <= h {
			best = max(best, item.Value)
		}
	}
	for n := 1; n < w; n++ {
		best = max(best, s.value(n, h)+s.value(w-n, h))
	}
	for n := 1; n < h; n++ {
		best = max(best, s.value(w, n)+s.value(w, h-n))
	}
	s.known[[2]int{w, h}] = best
	return best
}

// plan is that of the rule, read word by word.
func (s saw) plan(w, h int) []api.Cut {
	v := s.value(w, h)
	if v == 0 {
		return cuts(api.CutWaste, 0)
	}
	for i, item := range s.items {
		if item.W <= w && item.H <= h && item.Value == v {
			return cuts(api.CutItem, i)
		}
	}
	for n := 1; 2*n <= w; n++ {
		if s.value(n, h)+s.value(w-n, h) == v {
			return slices.Concat(cuts(api.CutWide, n), s.plan(n, h), s.plan(w-n, h))
		}
	}
	for n := 1; 2*n <= h; n++ {
		if s.value(w, n)+s.value(w, h-n) == v {
			return slices.Concat(cuts(api.CutHigh, n), s.plan(w, n), s.plan(w, h-n))
		}
	}
	return nil
}

// bestOf is the greatest value for w by h, and the plan of the rule.
func bestOf(w, h int, items []api.Item) (int, []api.Cut) {
	s := saw{items, map[[2]int]int{}}
	return s.value(w, h), s.plan(w, h)
}

// someItems are up to n items, no larger than size and with values up to most.
func someItems(r *rand.Rand, n, size, most int) []api.Item {
	var items []api.Item
	for range r.Intn(n + 1) {
		items = append(items, api.Item{W: 1 + r.Intn(size), H: 1 + r.Intn(size), Value: 1 + r.Intn(most)})
	}
	return items
}

// need is the result of a call that has to succeed.
func need[T any](result T, err api.Errno) T {
	if err != api.OK {
		panic(err)
	}
	return result
}
