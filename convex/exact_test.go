package convex_test

import (
	"math/big"
	"math/rand"
	"slices"

	"tinplate/api"
)

// What the tests compute on their own, each thing in another way than the package: hulls by trying all pairs of points,
// and what two polygons have in common by cutting one by the other's edges with rationals.

func vec(x, y int) api.Vec { return api.Vec{X: x, Y: y} }

// poly is the list of the points with these coordinates.
func poly(coordinates ...int) []api.Vec {
	var list []api.Vec
	for i := 0; i < len(coordinates); i += 2 {
		list = append(list, vec(coordinates[i], coordinates[i+1]))
	}
	return list
}

// turn is twice the signed area of a triangle.
func turn(a, b, c api.Vec) int { return (b.X-a.X)*(c.Y-a.Y) - (b.Y-a.Y)*(c.X-a.X) }

// onSegment tells whether v lies on the segment from a to b.
func onSegment(a, b, v api.Vec) bool {
	return turn(a, b, v) == 0 && min(a.X, b.X) <= v.X && v.X <= max(a.X, b.X) && min(a.Y, b.Y) <= v.Y && v.Y <= max(a.Y, b.Y)
}

// isPolygon: on each edge, all other vertices lie on the left, and the first vertex is the lowest.
func isPolygon(p []api.Vec) bool {
	if len(p) < 3 || len(p) > api.MaxVertices {
		return false
	}
	for i, v := range p {
		if max(v.X, -v.X, v.Y, -v.Y) > api.MaxCoord || v.Y < p[0].Y || v.Y == p[0].Y && v.X < p[0].X {
			return false
		}
		next := (i + 1) % len(p)
		for j, u := range p {
			if j != i && j != next && turn(v, p[next], u) <= 0 {
				return false
			}
		}
	}
	return true
}

// hullOf follows the pairs of points that have all others on their left or between them. It is nil if all points lie on
// one line.
func hullOf(points []api.Vec) []api.Vec {
	isEdge := func(a, b api.Vec) bool {
		some := false
		for _, v := range points {
			if turn(a, b, v) < 0 || turn(a, b, v) == 0 && !onSegment(a, b, v) {
				return false
			}
			some = some || turn(a, b, v) > 0
		}
		return some
	}
	next := map[api.Vec]api.Vec{}
	for _, a := range points {
		for _, b := range points {
			if a != b && isEdge(a, b) {
				next[a] = b
			}
		}
	}
	if len(next) == 0 {
		return nil
	}
	start := points[0]
	for _, v := range points {
		if v.Y < start.Y || v.Y == start.Y && v.X < start.X {
			start = v
		}
	}
	around := []api.Vec{start}
	for v := next[start]; v != start; v = next[v] {
		around = append(around, v)
	}
	return around
}

// areaOf is twice the area, as a fan of triangles.
func areaOf(p []api.Vec) int {
	double := 0
	for i := 2; i < len(p); i++ {
		double += turn(p[0], p[i-1], p[i])
	}
	return double
}

func placeOf(p []api.Vec, v api.Vec) int {
	for i := range p {
		if onSegment(p[i], p[(i+1)%len(p)], v) {
			return 0
		}
	}
	if slices.Equal(hullOf(append(slices.Clone(p), v)), p) {
		return 1
	}
	return -1
}

// pointsOf counts the points with integer coordinates one by one.
func pointsOf(p []api.Vec) (inside, boundary int) {
	low, high := p[0], p[0]
	for _, v := range p {
		low = vec(min(low.X, v.X), min(low.Y, v.Y))
		high = vec(max(high.X, v.X), max(high.Y, v.Y))
	}
	for x := low.X; x <= high.X; x++ {
		for y := low.Y; y <= high.Y; y++ {
			switch placeOf(p, vec(x, y)) {
			case 1:
				inside++
			case 0:
				boundary++
			}
		}
	}
	return inside, boundary
}

// sumOf is the hull of the sums of all pairs of vertices.
func sumOf(p, q []api.Vec) []api.Vec {
	var sums []api.Vec
	for _, a := range p {
		for _, b := range q {
			if s := vec(a.X+b.X, a.Y+b.Y); !slices.Contains(sums, s) {
				sums = append(sums, s)
			}
		}
	}
	return hullOf(sums)
}

func movedBy(p []api.Vec, v api.Vec) []api.Vec {
	var moved []api.Vec
	for _, u := range p {
		moved = append(moved, vec(u.X+v.X, u.Y+v.Y))
	}
	return moved
}

func flipOf(p []api.Vec) []api.Vec {
	var flipped []api.Vec
	for _, v := range p {
		flipped = append(flipped, vec(-v.X, -v.Y))
	}
	return hullOf(flipped)
}

// A corner is a point with rational coordinates.
type corner struct{ x, y *big.Rat }

// cross is (a, b) times (c, d) in the sense of turn.
func cross(a, b, c, d *big.Rat) *big.Rat {
	left, right := new(big.Rat).Mul(a, d), new(big.Rat).Mul(b, c)
	return left.Sub(left, right)
}

// sideOf is how far c lies to the left of the line from a to b.
func sideOf(a, b api.Vec, c corner) *big.Rat {
	x := new(big.Rat).Sub(c.x, big.NewRat(int64(a.X), 1))
	y := new(big.Rat).Sub(c.y, big.NewRat(int64(a.Y), 1))
	return cross(big.NewRat(int64(b.X-a.X), 1), big.NewRat(int64(b.Y-a.Y), 1), x, y)
}

// cut is what lies to the left of the line from a to b.
func cut(p []corner, a, b api.Vec) []corner {
	var kept []corner
	for i, from := range p {
		to := p[(i+1)%len(p)]
		s, t := sideOf(a, b, from), sideOf(a, b, to)
		if s.Sign() >= 0 {
			kept = append(kept, from)
		}
		if s.Sign()*t.Sign() < 0 {
			part := new(big.Rat).Quo(s, new(big.Rat).Sub(s, t))
			x := new(big.Rat).Mul(part, new(big.Rat).Sub(to.x, from.x))
			y := new(big.Rat).Mul(part, new(big.Rat).Sub(to.y, from.y))
			kept = append(kept, corner{x.Add(x, from.x), y.Add(y, from.y)})
		}
	}
	return kept
}

// common is twice the area of what p and q have in common.
func common(p, q []api.Vec) *big.Rat {
	var rest []corner
	for _, v := range p {
		rest = append(rest, corner{big.NewRat(int64(v.X), 1), big.NewRat(int64(v.Y), 1)})
	}
	for i := range q {
		rest = cut(rest, q[i], q[(i+1)%len(q)])
	}
	double := new(big.Rat)
	for i, c := range rest {
		to := rest[(i+1)%len(rest)]
		double.Add(double, cross(c.x, c.y, to.x, to.y))
	}
	return double
}

func overlaps(p, q []api.Vec) bool { return common(p, q).Sign() > 0 }

func isInside(p, q []api.Vec) bool { return common(p, q).Cmp(big.NewRat(int64(areaOf(p)), 1)) == 0 }

// normals are the directions that Separate is to try.
func normals(p, q []api.Vec) []api.Vec {
	var list []api.Vec
	for i, a := range p {
		b := p[(i+1)%len(p)]
		list = append(list, vec(b.Y-a.Y, a.X-b.X))
	}
	for i, a := range q {
		b := q[(i+1)%len(q)]
		list = append(list, vec(a.Y-b.Y, b.X-a.X))
	}
	return list
}

// separates tells whether no vertex of p is farther in the direction than one of q.
func separates(d api.Vec, p, q []api.Vec) bool {
	for _, a := range p {
		for _, b := range q {
			if d.X*a.X+d.Y*a.Y > d.X*b.X+d.Y*b.Y {
				return false
			}
		}
	}
	return true
}

// somePoints are n points with coordinates up to size from zero.
func somePoints(r *rand.Rand, n, size int) []api.Vec {
	var points []api.Vec
	for range n {
		points = append(points, vec(r.Intn(2*size+1)-size, r.Intn(2*size+1)-size))
	}
	return points
}

// somePolygon is the hull of a few points.
func somePolygon(r *rand.Rand, size int) []api.Vec {
	for {
		if p := hullOf(somePoints(r, 3+r.Intn(8), size)); p != nil && len(p) <= api.MaxVertices {
			return p
		}
	}
}

// round has 8, 16, 32 or (too many) 48 vertices, by its size: its edges are all the vectors with coordinates up to size
// that have no common divisor.
func round(size int) []api.Vec {
	var steps []api.Vec
	for x := -size; x <= size; x++ {
		for y := -size; y <= size; y++ {
			if new(big.Int).GCD(nil, nil, big.NewInt(int64(max(x, -x))), big.NewInt(int64(max(y, -y)))).Int64() == 1 {
				steps = append(steps, vec(x, y))
			}
		}
	}
	// the angle: first those that rise, and of these or of the others those to the right first
	upper := func(v api.Vec) bool { return v.Y > 0 || v.Y == 0 && v.X > 0 }
	slices.SortFunc(steps, func(a, b api.Vec) int {
		switch {
		case upper(a) && !upper(b):
			return -1
		case upper(b) && !upper(a):
			return 1
		}
		return a.Y*b.X - a.X*b.Y
	})
	at := vec(0, 0)
	var around []api.Vec
	for _, s := range steps {
		around = append(around, at)
		at = vec(at.X+s.X, at.Y+s.Y)
	}
	return around
}

// shuffled is p in another order.
func shuffled(r *rand.Rand, p []api.Vec) []api.Vec {
	other := slices.Clone(p)
	r.Shuffle(len(other), func(i, j int) { other[i], other[j] = other[j], other[i] })
	return other
}

// need is the result of a call that has to succeed.
func need[T any](result T, err api.Errno) T {
	if err != api.OK {
		panic(err)
	}
	return result
}

var (
	corner2 = poly(0, 0, 2, 0, 0, 2) // the triangle of the chapter's examples
	hexagon = poly(0, -2, 2, -2, 2, 0, 0, 2, -2, 2, -2, 0)
	widest  = poly(-1000, -1000, 1000, -1000, 1000, 1000, -1000, 1000)
)
