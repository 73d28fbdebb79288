package convex_test

import (
	"math/rand"
	"slices"
	"testing"

	"tinplate/api"
	"tinplate/convex"
)

// P3.6, P3.7
func TestPairs(t *testing.T) {
	square := poly(0, 0, 4, 0, 4, 4, 0, 4)
	none := vec(0, 0)
	for i, c := range []struct {
		p, q   []api.Vec
		d      api.Vec // zero if they overlap
		inside bool
	}{
		{corner2, poly(1, 1, 3, 1, 1, 3), vec(2, 2), false}, // they touch
		{corner2, corner2, none, true},
		{corner2, square, none, true}, // common edges
		{square, corner2, none, false},
		{poly(1, 1, 2, 1, 1, 2), square, none, true},
		{square, poly(1, 1, 2, 1, 1, 2), none, false},
		{poly(0, 0, 4, 4, 1, 2), square, none, true}, // two of its corners
		{poly(0, 0, 5, 4, 1, 2), square, none, false},
		// across each other, no vertex in the other
		{poly(-2, 1, 6, 1, 6, 2, -2, 2), poly(1, -2, 2, -2, 2, 6, 1, 6), none, false},
		{square, poly(2, -1, 5, 2, 2, 5, -1, 2), none, false},
		// the sides at which q may lie
		{square, poly(1, -3, 2, -3, 2, 0), vec(0, -4), false},
		{square, poly(4, 1, 5, 1, 5, 2), vec(4, 0), false},
		{square, poly(1, 4, 2, 4, 2, 5), vec(0, 4), false},
		{square, poly(-1, 1, 0, 1, 0, 2), vec(-4, 0), false},
		{square, poly(900, 1, 901, 1, 901, 2), vec(4, 0), false},
		// of several, the first one of p
		{square, poly(4, 4, 5, 4, 5, 5), vec(4, 0), false},
		{square, poly(-2, -2, -1, -2, -1, -1), vec(0, -4), false},
		{square, poly(5, -2, 6, -2, 6, -1), vec(0, -4), false},
		{square, poly(-2, 5, -1, 5, -1, 6), vec(0, 4), false},
		// at a vertex of p there is only an edge of q, and of q's the first
		{square, poly(5, 3, 6, 6, 3, 5), vec(2, 2), false},
		{poly(0, 0, 2, 2, 0, 4, -2, 2), poly(1, -2, 5, -2, 5, 1, 3, 2), vec(2, -2), false},
		{poly(0, 0, 2, 2, 0, 4, -2, 2), poly(1, 0, 5, 0, 5, 1, 3, 4), vec(4, -2), false},
		{poly(0, 0, 2, 2, 0, 4, -2, 2), poly(1, 0, 5, 0, 5, 1, 2, 4), none, false},
		{poly(0, 0, 2, 2, 0, 4, -2, 2), poly(2, 0, 4, 0, 4, 9, 2, 9), vec(9, 0), false},
		{poly(0, 0, 1, 2, 0, 4, -1, 2), poly(1, -2, 3, -2, 3, 9, 1, 9), vec(11, 0), false},
		{poly(0, 0, 1, 2, 0, 4, -1, 2), poly(1, 0, 3, 0, 3, 4, 1, 4), vec(4, 0), false},
		{poly(0, 0, 1, 3, 0, 4, -1, 3), poly(-3, 4, 3, 4, 0, 9), vec(0, 6), false},
		{poly(0, 0, 1, 1, 0, 2, -1, 1), poly(-3, 2, 3, 2, 3, 5, -3, 5), vec(0, 6), false},
		{widest, poly(999, 999, 1000, 999, 1000, 1000), none, false},
		{poly(-1000, -1000, -999, -1000, -1000, 1000), poly(1000, -1000, 1000, 1000, 999, 1000), vec(2000, 1), false},
	} {
		overlap := c.d == none
		err := api.OK
		if overlap {
			err = api.ErrPlan
		}
		if got, e := convex.Overlap(c.p, c.q); got != overlap || e != api.OK {
			t.Error(i, c, got, e)
		}
		if d, e := convex.Separate(c.p, c.q); d != c.d || e != err {
			t.Error(i, c, d, e)
		}
		if got, e := convex.Inside(c.p, c.q); got != c.inside || e != api.OK {
			t.Error(i, c, got, e)
		}
	}
}

// P3.6, P3.7
func TestPairsEach(t *testing.T) {
	r := rand.New(rand.NewSource(8))
	counts := map[string]int{}
	for i := range 3000 {
		p := somePolygon(r, 1+i%6)
		q := movedBy(somePolygon(r, 1+i%5), somePoints(r, 1, 1+i%11)[0])
		if i%4 == 0 {
			p, q = q, p
		}
		want := overlaps(p, q)
		if got, err := convex.Overlap(p, q); got != want || err != api.OK {
			t.Error(p, q, got, err)
		}
		d, err := convex.Separate(p, q)
		if want {
			counts["overlap"]++
			if d != vec(0, 0) || err != api.ErrPlan {
				t.Error(p, q, d, err)
			}
		} else {
			at := slices.IndexFunc(normals(p, q), func(d api.Vec) bool { return separates(d, p, q) })
			if at >= len(p) {
				counts["an edge of q"]++
			}
			if at < 0 || d != normals(p, q)[at] || err != api.OK {
				t.Error(p, q, d, err)
			}
		}
		inside := isInside(p, q)
		if inside {
			counts["inside"]++
		}
		if got, err := convex.Inside(p, q); got != inside || err != api.OK {
			t.Error(p, q, got, err)
		}
	}
	if counts["overlap"] < 500 || counts["an edge of q"] < 100 || counts["inside"] < 50 {
		t.Error(counts)
	}
}

// A call of a function takes p for one of its polygons. It tells whether all results but the error are zero values, and
// the error.
type call func(p []api.Vec) (bool, api.Errno)

func number(n int, err api.Errno) (bool, api.Errno) { return n == 0, err }

func truth(b bool, err api.Errno) (bool, api.Errno) { return !b, err }

func list(p []api.Vec, err api.Errno) (bool, api.Errno) { return len(p) == 0, err }

func direction(d api.Vec, err api.Errno) (bool, api.Errno) { return d == vec(0, 0), err }

func calls() map[string]call {
	numbers := func(n, m int, err api.Errno) (bool, api.Errno) { return n == 0 && m == 0, err }
	return map[string]call{
		"Area":            func(p []api.Vec) (bool, api.Errno) { return number(convex.Area(p)) },
		"Place":           func(p []api.Vec) (bool, api.Errno) { return number(convex.Place(p, vec(1, 1))) },
		"Place far out":   func(p []api.Vec) (bool, api.Errno) { return number(convex.Place(p, vec(1, 1001))) },
		"Points":          func(p []api.Vec) (bool, api.Errno) { return numbers(convex.Points(p)) },
		"Extreme":         func(p []api.Vec) (bool, api.Errno) { return numbers(convex.Extreme(p, vec(1, 1))) },
		"Extreme of zero": func(p []api.Vec) (bool, api.Errno) { return numbers(convex.Extreme(p, vec(0, 0))) },
		"Move":            func(p []api.Vec) (bool, api.Errno) { return list(convex.Move(p, vec(1, 1))) },
		"Move too far":    func(p []api.Vec) (bool, api.Errno) { return list(convex.Move(p, vec(1000, 1000))) },
		"Flip":            func(p []api.Vec) (bool, api.Errno) { return list(convex.Flip(p)) },
		"Sum":             func(p []api.Vec) (bool, api.Errno) { return list(convex.Sum(p, hexagon)) },
		"Sum, second":     func(p []api.Vec) (bool, api.Errno) { return list(convex.Sum(hexagon, p)) },
		"Sum too far":     func(p []api.Vec) (bool, api.Errno) { return list(convex.Sum(p, widest)) },
		"Sum of two":      func(p []api.Vec) (bool, api.Errno) { return list(convex.Sum(p, p)) },
		"Mixed":           func(p []api.Vec) (bool, api.Errno) { return number(convex.Mixed(p, hexagon)) },
		"Mixed, second":   func(p []api.Vec) (bool, api.Errno) { return number(convex.Mixed(hexagon, p)) },
		"Overlap":         func(p []api.Vec) (bool, api.Errno) { return truth(convex.Overlap(p, hexagon)) },
		"Overlap, second": func(p []api.Vec) (bool, api.Errno) { return truth(convex.Overlap(hexagon, p)) },
		"Separate":        func(p []api.Vec) (bool, api.Errno) { return direction(convex.Separate(p, hexagon)) },
		"Separate, second": func(p []api.Vec) (bool, api.Errno) {
			return direction(convex.Separate(hexagon, p))
		},
		"Inside":         func(p []api.Vec) (bool, api.Errno) { return truth(convex.Inside(p, widest)) },
		"Inside, second": func(p []api.Vec) (bool, api.Errno) { return truth(convex.Inside(hexagon, p)) },
	}
}

// P3.2 to P3.7: an argument that is not a polygon is the first error.
func TestNotPolygons(t *testing.T) {
	for name, p := range notPolygons() {
		for function, call := range calls() {
			if zero, err := call(p); !zero || err != api.ErrArg {
				t.Error(name, function, zero, err)
			}
		}
	}
}

// polygonsOf are what the functions that return a polygon make of p and q.
func polygonsOf(p, q []api.Vec) [][]api.Vec {
	hull, _ := convex.Hull(p)
	moved, _ := convex.Move(p, vec(0, 0))
	flipped, _ := convex.Flip(p)
	sum, _ := convex.Sum(p, q)
	return [][]api.Vec{hull, moved, flipped, sum}
}

// No function changes an argument, writes behind its end, or returns memory of it.
func TestMemory(t *testing.T) {
	square := poly(-1, -1, 1, -1, 1, 1, -1, 1)
	room := append(slices.Clone(square), poly(7, 7, 8, 8, 9, 9, 7, 7, 8, 8, 9, 9)...)
	before := slices.Clone(room)
	p := room[:len(square)]
	for _, call := range calls() {
		call(p)
	}
	convex.Valid(p)
	results := polygonsOf(p, p)
	points := room[:len(room):len(room)]
	hull, _ := convex.Hull(points)
	results = append(results, hull)
	if !slices.Equal(room, before) {
		t.Error(room)
	}
	want := polygonsOf(square, square)
	for i := range results {
		full := results[i][:cap(results[i])]
		for k := range full {
			full[k] = vec(99, 99)
		}
		if !slices.Equal(room, before) {
			t.Error(i, room)
		}
		for k := i + 1; k < len(want); k++ {
			if !slices.Equal(results[k], want[k]) {
				t.Error(i, k, results[k])
			}
		}
	}
}
