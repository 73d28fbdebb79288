package blank_test

import (
	"math/rand"
	"slices"
	"testing"

	"tinplate/api"
	"tinplate/blank"
	"tinplate/convex"
)

// moved is p, moved by a vector of a layout.
func moved(p []api.Vec, v api.Vec) []api.Vec { return need(convex.Move(p, v)) }

// admissible are the densest grid and some others.
func admissible(r *rand.Rand, p []api.Vec, n int) []api.Grid {
	grids := []api.Grid{need(blank.Densest(p))}
	for len(grids) < n {
		if g := someGrid(r, 25); need(blank.Admissible(p, g)) {
			grids = append(grids, g)
		}
	}
	return grids
}

// P4.7
func TestAreaTheorem(t *testing.T) {
	r := rand.New(rand.NewSource(11))
	for _, p := range blanks() {
		flipped := need(convex.Flip(p))
		area, mixed := need(convex.Area(p)), need(convex.Mixed(p, flipped))
		if s, err := convex.Sum(p, flipped); err == api.OK && 2*area+mixed != need(convex.Area(s)) {
			t.Error(p, area, mixed, s)
		}
		for _, g := range admissible(r, p, 20) {
			if n := g.A * g.D; 2*n < area || 8*n < 2*area+mixed {
				t.Error(p, g, area, mixed)
			}
		}
	}
	// they are equal for what fills the plane, and for what meets itself in each of its corners
	if g := need(blank.Densest(large)); 2*g.A*g.D != need(convex.Area(large)) {
		t.Error(g)
	}
	if g := need(blank.Densest(triangle)); 8*g.A*g.D != need(convex.Area(triangle))*2+need(convex.Mixed(triangle, need(convex.Flip(triangle)))) {
		t.Error(g)
	}
}

// P4.8
func TestCollisionTheorem(t *testing.T) {
	r := rand.New(rand.NewSource(12))
	grids := gridsUpTo(144)
	for _, p := range blanks() {
		least := need(blank.Densest(p))
		for _, g := range grids[:slices.Index(grids, least)] {
			if need(blank.Admissible(p, g)) {
				t.Error(p, g, least)
			}
		}
		for range 300 {
			g := someGrid(r, 20)
			v, err := blank.Witness(p, g)
			if need(blank.Admissible(p, g)) != (err == api.ErrPlan) {
				t.Error(p, g, v, err)
			}
			if err == api.OK && !need(convex.Overlap(p, moved(p, v))) {
				t.Error(p, g, v)
			}
		}
		for range 100 {
			u, v := vec(r.Intn(25), r.Intn(25)), vec(r.Intn(25), r.Intn(25))
			between := vec(u.X-v.X, u.Y-v.Y)
			far := collide(p, between, vec(0, 0))
			if need(convex.Overlap(moved(p, u), moved(p, v))) != far || far != collide(p, u, v) {
				t.Error(p, u, v)
			}
		}
	}
}

// P4.9
func TestLayoutTheorem(t *testing.T) {
	r := rand.New(rand.NewSource(13))
	for _, p := range blanks() {
		area := need(convex.Area(p))
		for _, g := range admissible(r, p, 6) {
			w, h := 1+r.Intn(40), 1+r.Intn(40)
			list := need(blank.Lay(p, g, w, h))
			for i, v := range list {
				if !fits(p, v, w, h) {
					t.Error(p, g, w, h, v)
				}
				for _, u := range list[:i] {
					if need(convex.Overlap(moved(p, u), moved(p, v))) {
						t.Error(p, g, w, h, u, v)
					}
				}
			}
			if len(list)*area > 2*w*h {
				t.Error(p, g, w, h, list)
			}
			for x := range g.A {
				for y := range g.D {
					if other := layoutOf(p, g, vec(x, y), w, h); len(other) > len(list) {
						t.Error(p, g, w, h, list, other)
					}
				}
			}
			for _, more := range [][2]int{{1, 0}, {0, 1}, {7, 3}, {0, 60}, {60, 0}} {
				if larger := need(blank.Lay(p, g, w+more[0], h+more[1])); len(larger) < len(list) {
					t.Error(p, g, w, h, more, list, larger)
				}
			}
		}
	}
}

// greatest is the value of Best.
func greatest(w, h int, items []api.Item) int {
	n, _, err := blank.Best(w, h, items)
	return need(n, err)
}

// P4.10
func TestCutTheorem(t *testing.T) {
	r := rand.New(rand.NewSource(14))
	for i := range 400 {
		w, h := 1+r.Intn(20), 1+r.Intn(20)
		items := someItems(r, 1+i%api.MaxItems, 1+i%12, 1+i%50)
		n, plan, err := blank.Best(w, h, items)
		value, counts, ok, e := blank.Worth(w, h, items, plan)
		if value != n || !ok || len(counts) != len(items) || err != api.OK || e != api.OK {
			t.Error(w, h, items, n, plan, err, value, counts, ok, e)
		}
		if greatest(w+1, h, items) < n || greatest(w, h+1, items) < n {
			t.Error(w, h, items, n)
		}
		var turned []api.Item
		for at, item := range items {
			turned = append(turned, api.Item{W: item.H, H: item.W, Value: item.Value})
			dearer := slices.Clone(items)
			dearer[at].Value += 1 + r.Intn(9)
			if greatest(w, h, dearer) < n {
				t.Error(w, h, items, n, dearer)
			}
		}
		if other := greatest(h, w, turned); other != n {
			t.Error(w, h, items, n, other)
		}
		for x := 1; x < w; x++ {
			if greatest(x, h, items)+greatest(w-x, h, items) > n {
				t.Error(w, h, items, n, x)
			}
		}
		for y := 1; y < h; y++ {
			if greatest(w, y, items)+greatest(w, h-y, items) > n {
				t.Error(w, h, items, n, y)
			}
		}
	}
}

// P4.10: no accepted plan has a greater value, of all there are.
func TestNoBetterPlan(t *testing.T) {
	r := rand.New(rand.NewSource(15))
	for _, size := range [][2]int{{1, 1}, {2, 1}, {1, 3}, {4, 1}, {2, 2}, {3, 2}, {2, 3}} {
		for range 20 {
			w, h, items := size[0], size[1], someItems(r, 2, 3, 9)
			n, best, most := greatest(w, h, items), 0, planned{}
			for _, p := range allPlans(w, h, items) {
				value, counts, ok, err := blank.Worth(w, h, items, p.plan)
				if value != p.value || !slices.Equal(counts, p.counts) || !ok || err != api.OK {
					t.Error(w, h, items, p, value, counts, ok, err)
				}
				if value > best {
					best, most = value, p
				}
			}
			if best != n {
				t.Error(w, h, items, n, best, most)
			}
		}
	}
}
