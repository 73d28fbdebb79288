package convex_test

import (
	"math"
	"math/rand"
	"slices"
	"testing"

	"tinplate/api"
	"tinplate/convex"
)

// notPolygons are lists that no function takes for a polygon.
func notPolygons() map[string][]api.Vec {
	return map[string][]api.Vec{
		"nothing":              nil,
		"a point":              poly(0, 0),
		"two points":           poly(0, 0, 1, 0),
		"a line":               poly(0, 0, 1, 0, 2, 0),
		"there and back":       poly(0, 0, 1, 0, 2, 0, 1, 0),
		"clockwise":            poly(0, 0, 0, 2, 2, 0),
		"a point twice":        poly(0, 0, 0, 0, 2, 0, 0, 2),
		"the last point twice": poly(0, 0, 2, 0, 0, 2, 0, 2),
		"the first at the end": poly(0, 0, 2, 0, 0, 2, 0, 0),
		"straight":             poly(0, 0, 1, 0, 2, 0, 0, 2),
		"straight at the end":  poly(0, 0, 2, 0, 0, 2, 0, 1),
		"straight at first":    poly(1, 0, 2, 0, 0, 2, 0, 0),
		"hollow":               poly(0, 0, 4, 0, 1, 1, 0, 4),
		"a bow":                poly(0, 0, 2, 2, 2, 0, 0, 2),
		"begins on the right":  poly(2, 0, 0, 2, 0, 0),
		"begins at the top":    poly(0, 2, 0, 0, 2, 0),
		"begins in the middle": poly(2, 1, 2, 2, 0, 0),
		"twice around":         poly(0, 0, 2, 0, 0, 2, 0, 0, 2, 0, 0, 2),
		"twice, a bit aside":   poly(0, 0, 9, 1, 1, 9, 1, 1, 8, 2, 2, 8),
		"a star":               poly(-2, -3, 3, 1, -3, 1, 2, -3, 0, 3),
		"33 vertices":          round(4)[:33],
		"48 vertices":          round(4),
		"far to the right":     poly(0, 0, 1001, 0, 0, 2),
		"far to the left":      poly(0, 0, 1, 0, -1001, 2),
		"far up":               poly(0, 0, 1, 0, 0, 1001),
		"far down":             poly(0, -1001, 1, 0, 0, 1),
		"far out":              poly(0, 0, math.MaxInt, 0, 0, math.MaxInt),
		"farther out":          poly(math.MinInt, math.MinInt, math.MaxInt, 0, 0, math.MaxInt),
		"around and around":    poly(0, 0, 1<<32, 0, 1<<32, 1<<32, 0, 1<<32), // whose area as an int is 0
		"very many":            make([]api.Vec, 100000),
	}
}

// P3.1
func TestValid(t *testing.T) {
	for _, p := range [][]api.Vec{
		corner2, hexagon, widest,
		poly(0, 0, 1, 0, 0, 1),
		poly(0, 0, 1, 0, 1, 1, 0, 1),
		poly(0, 0, 1, 5, 0, 10, -1, 5),
		poly(5, 0, 6, 3, 0, 4), // of the lowest ones, this is alone
		poly(-1000, -1000, 1000, 999, 999, 1000),
		round(1), round(2), round(3), round(4)[:32],
	} {
		if !convex.Valid(p) {
			t.Error(p)
		}
	}
	for name, p := range notPolygons() {
		if convex.Valid(p) {
			t.Error(name, p)
		}
	}
}

// P3.1: all lists of up to four points of a small square, and lists of more
func TestValidEach(t *testing.T) {
	r := rand.New(rand.NewSource(1))
	check := func(p []api.Vec) {
		if got := convex.Valid(p); got != isPolygon(p) {
			t.Error(p, got)
		}
	}
	lists := [][]api.Vec{nil}
	for range 4 {
		var longer [][]api.Vec
		for _, p := range lists {
			for k := range 9 {
				longer = append(longer, append(slices.Clone(p), vec(k%3, k/3)))
			}
		}
		lists = longer
		for _, p := range lists {
			check(p)
		}
	}
	for range 3000 {
		p := somePolygon(r, 5)
		i := r.Intn(len(p))
		check(p)
		check(shuffled(r, p))
		check(append(slices.Clone(p[i:]), p[:i]...))
		check(append(slices.Clone(p), p...))
		check(append(slices.Clone(p), p[i]))
		check(slices.Insert(slices.Clone(p), i, somePoints(r, 1, 6)...))
		slices.Reverse(p)
		check(p)
	}
}

// P3.1
func TestHull(t *testing.T) {
	thousand := slices.Repeat(poly(0, 0, 1, 0, 0, 1), 1000)
	high := api.MaxCoord
	for i, c := range []struct {
		points, want []api.Vec
		err          api.Errno
	}{
		{poly(0, 0, 4, 0, 2, 0, 2, 2, 0, 4, 1, 1), poly(0, 0, 4, 0, 0, 4), api.OK},
		{poly(0, 2, 2, 0, 0, 0), corner2, api.OK},
		{poly(0, 0, 2, 0, 0, 2, 0, 0, 2, 0, 0, 2, 0, 0), corner2, api.OK},
		{poly(1, 1, 3, 0, 0, 3, 0, 0, 3, 3), poly(0, 0, 3, 0, 3, 3, 0, 3), api.OK},
		{poly(0, 0, 1, -1, -1, -1, 0, -1, 0, 2), poly(-1, -1, 1, -1, 0, 2), api.OK},
		{poly(0, 0, 1, 5, 0, 10, 0, 5), poly(0, 0, 1, 5, 0, 10), api.OK},
		{poly(0, 0, -1, 5, 0, 10, 0, 5), poly(0, 0, 0, 10, -1, 5), api.OK},
		{poly(high, high, -high, -high, high, -high), poly(-high, -high, high, -high, high, high), api.OK},
		{thousand[:200], poly(0, 0, 1, 0, 0, 1), api.OK},
		{round(4)[:32], round(4)[:32], api.OK},
		{thousand[:201], nil, api.ErrLimit},
		{thousand, nil, api.ErrLimit},
		{append(thousand[:200:200], vec(0, 1001)), nil, api.ErrLimit}, // the limit comes first
		{slices.Repeat(poly(1, 1), 201), nil, api.ErrLimit},
		{poly(0, 0, 1001, 0, 0, 1), nil, api.ErrArg},
		{poly(0, 0, -1001, 0, 0, 1), nil, api.ErrArg},
		{poly(0, 0, 1, 0, 0, 1001), nil, api.ErrArg},
		{poly(0, 0, 1, 0, 0, -1001), nil, api.ErrArg},
		{poly(math.MinInt, 0, 1, 0, 0, 2), nil, api.ErrArg},
		{poly(0, math.MaxInt), nil, api.ErrArg},           // before they are seen to lie on one line
		{append(round(4), vec(0, 1001)), nil, api.ErrArg}, // before there are too many
		{nil, nil, api.ErrPlan},
		{poly(3, 4), nil, api.ErrPlan},
		{poly(3, 4, 3, 4, 3, 4), nil, api.ErrPlan},
		{poly(3, 4, 0, 0), nil, api.ErrPlan},
		{poly(0, 0, 3, 0, 1, 0, 2, 0, 1, 0), nil, api.ErrPlan},
		{poly(0, 3, 0, 1, 0, 2, 0, 0), nil, api.ErrPlan},
		{poly(-3, 3, 1, -1, 2, -2, 0, 0), nil, api.ErrPlan},
		{round(4)[:33], nil, api.ErrFull},
		{round(4), nil, api.ErrFull},
	} {
		if p, err := convex.Hull(c.points); !slices.Equal(p, c.want) || err != c.err {
			t.Error(i, c, p, err)
		}
	}
}

// P3.1
func TestHullOfMany(t *testing.T) {
	r := rand.New(rand.NewSource(2))
	for i := range 3000 {
		points := somePoints(r, r.Intn(14), []int{1, 2, 3, 10, 1000}[i%5])
		want, err := hullOf(points), api.OK
		if want == nil {
			err = api.ErrPlan
		}
		if p, e := convex.Hull(points); !slices.Equal(p, want) || e != err {
			t.Error(points, p, e)
		}
	}
	// many points around, so that the hull has about as many vertices as it may have, or too many
	for i := range 30 {
		points := shuffled(r, append(round(3+i%2), somePoints(r, 60, 4)...))
		want := hullOf(points)
		p, err := convex.Hull(points)
		if len(want) > api.MaxVertices {
			if p != nil || err != api.ErrFull {
				t.Error(points, p, err)
			}
		} else if !slices.Equal(p, want) || err != api.OK {
			t.Error(points, p, err)
		}
	}
}

// P3.2
func TestAreaPlacePoints(t *testing.T) {
	for _, c := range []struct {
		p                      []api.Vec
		area, inside, boundary int
	}{
		{poly(0, 0, 4, 0, 0, 4), 16, 3, 12},
		{corner2, 4, 0, 6},
		{hexagon, 24, 7, 12},
		{poly(0, 0, 1, 0, 0, 1), 1, 0, 3},
		{poly(0, 0, 5, 3, 3, 2), 1, 0, 3},
		{poly(-3, -7, -1, -7, -1, -6, -3, -6), 4, 0, 6},
		{widest, 8000000, 1999 * 1999, 8000},
		{poly(-1000, -1000, 1000, 999, 999, 1000), 3999, 1999, 3},
	} {
		if n, err := convex.Area(c.p); n != c.area || err != api.OK {
			t.Error(c, n, err)
		}
		if i, b, err := convex.Points(c.p); i != c.inside || b != c.boundary || err != api.OK {
			t.Error(c, i, b, err)
		}
	}
	r := rand.New(rand.NewSource(3))
	for i := range 300 {
		p := somePolygon(r, 1+i%9)
		if n, err := convex.Area(p); n != areaOf(p) || err != api.OK {
			t.Error(p, n, err)
		}
		inside, boundary := pointsOf(p)
		if i, b, err := convex.Points(p); i != inside || b != boundary || err != api.OK {
			t.Error(p, i, b, err)
		}
	}
}

// P3.2
func TestPlace(t *testing.T) {
	for _, c := range []struct {
		p    []api.Vec
		v    api.Vec
		want int
	}{
		{hexagon, vec(0, 0), 1},
		{hexagon, vec(1, 0), 1},
		{hexagon, vec(1, 1), 0},
		{hexagon, vec(2, 0), 0},
		{hexagon, vec(2, -1), 0},
		{hexagon, vec(2, 1), -1},
		{corner2, vec(0, 0), 0},
		{corner2, vec(1, 1), 0},
		{corner2, vec(0, 1), 0},
		{corner2, vec(3, -1), -1}, // on the line of an edge, beyond its end
		{corner2, vec(3, 0), -1},
		{corner2, vec(-1, 0), -1},
		{corner2, vec(-1000, 1000), -1},
		{corner2, vec(1000, 1000), -1},
		{widest, vec(1000, 1000), 0},
		{widest, vec(999, -999), 1},
	} {
		if at, err := convex.Place(c.p, c.v); at != c.want || err != api.OK {
			t.Error(c, at, err)
		}
	}
	r := rand.New(rand.NewSource(4))
	for i := range 200 {
		p := somePolygon(r, 1+i%20)
		for _, v := range append(somePoints(r, 40, 1+i%20), p...) {
			if at, err := convex.Place(p, v); at != placeOf(p, v) || err != api.OK {
				t.Error(p, v, at, err)
			}
		}
	}
}

// far are vectors that are not valid.
var far = poly(1001, 0, 0, 1001, -1001, 0, 0, -1001, math.MaxInt, 0, 0, math.MinInt, math.MinInt, math.MaxInt)

// P3.2, P3.3, P3.4
func TestVectors(t *testing.T) {
	for _, v := range far {
		if at, err := convex.Place(hexagon, v); at != 0 || err != api.ErrArg {
			t.Error(v, at, err)
		}
		if most, at, err := convex.Extreme(hexagon, v); most != 0 || at != 0 || err != api.ErrArg {
			t.Error(v, most, at, err)
		}
		if p, err := convex.Move(hexagon, v); len(p) != 0 || err != api.ErrArg {
			t.Error(v, p, err)
		}
	}
	if most, at, err := convex.Extreme(hexagon, vec(0, 0)); most != 0 || at != 0 || err != api.ErrArg {
		t.Error(most, at, err)
	}
}

// P3.3
func TestExtreme(t *testing.T) {
	for _, c := range []struct {
		p        []api.Vec
		d        api.Vec
		most, at int
	}{
		{hexagon, vec(1, 0), 2, 1}, // of two that attain it, the first
		{hexagon, vec(0, 1), 2, 3},
		{hexagon, vec(1, 1), 2, 2},
		{hexagon, vec(-1, -1), 2, 0}, // as the last one does, too
		{hexagon, vec(0, -1), 2, 0},
		{hexagon, vec(-2, 1), 6, 4},
		{corner2, vec(-3, -4), 0, 0},
		{corner2, vec(-1, 0), 0, 0},
		{poly(5, 5, 6, 5, 5, 6), vec(-1, -1), -10, 0}, // the maximum is below zero
		{poly(5, 5, 6, 5, 5, 6), vec(-1, -2), -15, 0},
		{widest, vec(1000, 1000), 2000000, 2},
		{widest, vec(-1000, 1000), 2000000, 3},
		{widest, vec(-1, 0), 1000, 0},
	} {
		if most, at, err := convex.Extreme(c.p, c.d); most != c.most || at != c.at || err != api.OK {
			t.Error(c, most, at, err)
		}
	}
	r := rand.New(rand.NewSource(5))
	for range 1000 {
		p, d := somePolygon(r, 4), somePoints(r, 1, 3)[0]
		if d == vec(0, 0) {
			continue
		}
		var values []int
		for _, v := range p {
			values = append(values, v.X*d.X+v.Y*d.Y)
		}
		want := slices.Max(values)
		if most, at, err := convex.Extreme(p, d); most != want || at != slices.Index(values, want) || err != api.OK {
			t.Error(p, d, most, at, err)
		}
	}
}

// P3.4
func TestMoveFlip(t *testing.T) {
	for _, c := range []struct {
		v   api.Vec
		err api.Errno
	}{
		{vec(0, 0), api.OK},
		{vec(-3, 17), api.OK},
		{vec(998, 998), api.OK},
		{vec(-998, -998), api.OK},
		{vec(999, 0), api.ErrRange},
		{vec(0, 999), api.ErrRange},
		{vec(-999, 0), api.ErrRange},
		{vec(0, -999), api.ErrRange},
		{vec(1000, -1000), api.ErrRange},
	} {
		var want []api.Vec
		if c.err == api.OK {
			want = movedBy(hexagon, c.v)
		}
		if p, err := convex.Move(hexagon, c.v); !slices.Equal(p, want) || err != c.err {
			t.Error(c, p, err)
		}
	}
	for _, p := range [][]api.Vec{corner2, hexagon, widest, round(3), poly(0, 0, 5, 0, 5, 2, 0, 2), poly(0, 0, 2, 3, -1, 3)} {
		if q, err := convex.Flip(p); !slices.Equal(q, flipOf(p)) || err != api.OK {
			t.Error(p, q, err)
		}
	}
	r := rand.New(rand.NewSource(6))
	for range 1000 {
		p, v := somePolygon(r, 6), somePoints(r, 1, 994)[0]
		if q, err := convex.Move(p, v); !slices.Equal(q, movedBy(p, v)) || err != api.OK {
			t.Error(p, v, q, err)
		}
		if q, err := convex.Flip(p); !slices.Equal(q, flipOf(p)) || err != api.OK {
			t.Error(p, q, err)
		}
	}
}

// turned has the edges of round(3) turned a little, so that no two have the same direction.
func turned() []api.Vec {
	var p []api.Vec
	for _, v := range round(3) {
		p = append(p, vec(7*v.X-v.Y, v.X+7*v.Y))
	}
	return hullOf(p)
}

// P3.4, P3.5
func TestSum(t *testing.T) {
	wide := poly(-500, 0, 500, 0, 500, 500, -500, 500)
	wider := poly(-501, 0, 500, 0, 500, 500, -500, 500)
	aside := movedBy(turned(), vec(700, 700))
	for i, c := range []struct {
		p, q, want []api.Vec
		err        api.Errno
	}{
		{corner2, corner2, poly(0, 0, 4, 0, 0, 4), api.OK},
		{corner2, poly(0, -2, 0, 0, -2, 0), hexagon, api.OK},
		{poly(0, 0, 1, 0, 1, 1, 0, 1), poly(1, 1, 3, 1, 3, 2, 1, 2), poly(1, 1, 4, 1, 4, 3, 1, 3), api.OK},
		{poly(0, 0, 1, 0, 1, 1, 0, 1), poly(0, 0, 1, 1, 0, 2, -1, 1), poly(0, 0, 1, 0, 2, 1, 2, 2, 1, 3, 0, 3, -1, 2, -1, 1), api.OK},
		{wide, wide, poly(-1000, 0, 1000, 0, 1000, 1000, -1000, 1000), api.OK},
		{wide, wider, nil, api.ErrRange},
		{widest, corner2, nil, api.ErrRange},
		{widest, widest, nil, api.ErrRange},
		{round(3), round(3), hullOf(append(sumOf(round(3), round(3)), vec(0, 0))), api.OK}, // 32 vertices again
		{round(3), turned(), nil, api.ErrFull},
		{round(3), corner2, sumOf(round(3), corner2), api.OK},
		{round(3), poly(0, 0, 4, 1, 4, 2), nil, api.ErrFull}, // 33
		{aside, round(3), nil, api.ErrFull},
		{aside, movedBy(round(3), vec(300, 0)), nil, api.ErrRange}, // and too many, but that comes later
	} {
		if s, err := convex.Sum(c.p, c.q); !slices.Equal(s, c.want) || err != c.err {
			t.Error(i, c, s, err)
		}
		if s, err := convex.Sum(c.q, c.p); !slices.Equal(s, c.want) || err != c.err {
			t.Error(i, c, s, err)
		}
		want := areaOf(sumOf(c.p, c.q)) - areaOf(c.p) - areaOf(c.q)
		if n, err := convex.Mixed(c.p, c.q); n != want || err != api.OK {
			t.Error(i, c, n, err)
		}
	}
	if n, err := convex.Mixed(widest, widest); n != 16000000 || err != api.OK {
		t.Error(n, err)
	}
	r := rand.New(rand.NewSource(7))
	for i := range 500 {
		p, q := somePolygon(r, 1+i%7), somePolygon(r, 1+i%11)
		want := sumOf(p, q)
		if s, err := convex.Sum(p, q); !slices.Equal(s, want) || err != api.OK {
			t.Error(p, q, s, err)
		}
		if n, err := convex.Mixed(p, q); n != areaOf(want)-areaOf(p)-areaOf(q) || err != api.OK {
			t.Error(p, q, n, err)
		}
	}
}
