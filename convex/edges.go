package convex

import (
	"cmp"
	"iter"
	"slices"

	"tinplate/api"
)

// An edge goes from a vertex by a step to the next one; the interior lies to its left.
type edge struct{ from, step api.Vec }

// outward returns the normal that points away from the interior, as long as the edge.
func (e edge) outward() api.Vec { return api.Vec{X: e.step.Y, Y: -e.step.X} }

// side returns a number that is positive for v to the left of the edge's line, and negative to the right.
func (e edge) side(v api.Vec) int { return cross(e.step, minus(v, e.from)) }

// edges goes through the edges of p in order.
func edges(p []api.Vec) iter.Seq[edge] {
	return func(yield func(edge) bool) {
		for i, from := range p {
			to := p[(i+1)%len(p)]
			if !yield(edge{from: from, step: minus(to, from)}) {
				return
			}
		}
	}
}

// steps are those of the edges of p in order.
func steps(p []api.Vec) []api.Vec {
	var list []api.Vec
	for e := range edges(p) {
		list = append(list, e.step)
	}
	return list
}

// directions goes through the normals one of which separates p from q, unless their interiors overlap: of p the
// outward ones, of q the inward ones.
func directions(p, q []api.Vec) iter.Seq[api.Vec] {
	return func(yield func(api.Vec) bool) {
		for e := range edges(p) {
			if !yield(e.outward()) {
				return
			}
		}
		for e := range edges(q) {
			if !yield(opposite(e.outward())) {
				return
			}
		}
	}
}

// area returns twice the area within the cycle p.
func area(p []api.Vec) int {
	double := 0
	for e := range edges(p) {
		double += cross(e.from, e.step)
	}
	return double
}

func place(p []api.Vec, v api.Vec) int {
	at := 1
	for e := range edges(p) {
		at = min(at, cmp.Compare(e.side(v), 0))
	}
	return at
}

func extreme(p []api.Vec, d api.Vec) (most, at int) {
	most = dot(d, p[0])
	for i, v := range p {
		if n := dot(d, v); n > most {
			most, at = n, i
		}
	}
	return most, at
}

// sum walks around from the lowest vertex by the steps of both polygons. They are sorted by angle; where several of
// them have the same direction, there is no vertex between them.
func sum(p, q []api.Vec) []api.Vec {
	all := slices.Concat(steps(p), steps(q))
	slices.SortFunc(all, byAngle)
	at := plus(p[0], q[0])
	var around []api.Vec
	for i, step := range all {
		if i == 0 || byAngle(all[i-1], step) != 0 {
			around = append(around, at)
		}
		at = plus(at, step)
	}
	return around
}

// hull returns the vertices around points in the order of a polygon; there are fewer than three if all points lie on
// one line.
func hull(points []api.Vec) []api.Vec {
	if len(points) == 0 {
		return nil
	}
	sorted := slices.Clone(points)
	slices.SortFunc(sorted, byHeight)
	right := bend(sorted)
	slices.Reverse(sorted)
	left := bend(sorted)
	// each of the two ends where the other begins
	return slices.Concat(right[:len(right)-1], left[:len(left)-1])
}

// bend returns the way from the first to the last of the sorted points that has all points on its left or on it, and
// turns to the left at each point where it stops.
func bend(sorted []api.Vec) []api.Vec {
	var way []api.Vec
	for _, v := range sorted {
		for len(way) > 1 && !leftOf(way[len(way)-2], way[len(way)-1], v) {
			way = way[:len(way)-1]
		}
		way = append(way, v)
	}
	return way
}

// leftOf reports whether v is to the left of the line from a to b.
func leftOf(a, b, v api.Vec) bool { return edge{from: a, step: minus(b, a)}.side(v) > 0 }
