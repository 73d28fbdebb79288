package blank

import (
	"cmp"
	"iter"
	"maps"
	"slices"

	"tinplate/api"
	"tinplate/convex"
)

// near goes through the vectors of g that are lexicographically greater than zero and not too long for a collision.
// Those that are less are their opposites, and a blank moved by v collides with it exactly if one moved by -v does.
func near(g api.Grid) iter.Seq[api.Vec] {
	return func(yield func(api.Vec) bool) {
		for x := 0; x < api.MaxBlank; x += g.A {
			least := 1 - api.MaxBlank
			if x == 0 {
				least = 1
			}
			for y := least + mod(x/g.A*g.B-least, g.D); y < api.MaxBlank; y += g.D {
				if !yield(api.Vec{X: x, Y: y}) {
					return
				}
			}
		}
	}
}

// collisions returns those vectors near g by which p collides with itself.
func collisions(p []api.Vec, g api.Grid) map[api.Vec]bool {
	found := map[api.Vec]bool{}
	for v := range near(g) {
		moved, _ := convex.Move(p, v) // a blank stays within the limits
		if overlap, _ := convex.Overlap(p, moved); overlap {
			found[v] = true
		}
	}
	return found
}

// avoids reports whether g has none of a blank's collisions.
func avoids(g api.Grid, all map[api.Vec]bool) bool {
	for v := range near(g) {
		if all[v] {
			return false
		}
	}
	return true
}

// layouts returns, by their offsets, all layouts that have a translation, in the order in which Lay lists them. Each
// vector by which p lies on the sheet belongs to exactly one offset.
func layouts(p []api.Vec, g api.Grid, w, h int) map[api.Vec][]api.Vec {
	left, right := reach(p, api.Vec{X: -1}), reach(p, api.Vec{X: 1})
	down, up := reach(p, api.Vec{Y: -1}), reach(p, api.Vec{Y: 1})
	all := map[api.Vec][]api.Vec{}
	for y := down; y <= h-up; y++ {
		for x := left; x <= w-right; x++ {
			v := api.Vec{X: x, Y: y}
			o := offset(g, v)
			all[o] = append(all[o], v)
		}
	}
	return all
}

// reach returns how far p goes in a direction.
func reach(p []api.Vec, direction api.Vec) int {
	most, _, _ := convex.Extreme(p, direction)
	return most
}

// offset returns the vector with X below A and Y below D, neither negative, that differs from v by one of g.
func offset(g api.Grid, v api.Vec) api.Vec {
	x := mod(v.X, g.A)
	columns := (v.X - x) / g.A
	return api.Vec{X: x, Y: mod(v.Y-columns*g.B, g.D)}
}

// firstKey returns the first key in an order in which no two are equal: false if there is none.
func firstKey[Value any](m map[api.Vec]Value, order func(a, b api.Vec) int) (api.Vec, bool) {
	if len(m) == 0 {
		return api.Vec{}, false
	}
	return slices.MinFunc(slices.Collect(maps.Keys(m)), order), true
}

// square returns the square of v's length.
func square(v api.Vec) int { return v.X*v.X + v.Y*v.Y }

func lexicographic(a, b api.Vec) int { return cmp.Or(cmp.Compare(a.X, b.X), cmp.Compare(a.Y, b.Y)) }

// mod returns what is left of a by n, never negative.
func mod(a, n int) int { return (a%n + n) % n }
