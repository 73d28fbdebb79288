package convex_test

import (
	"math/rand"
	"slices"
	"testing"

	"tinplate/api"
	"tinplate/convex"
)

// threePolygons are small ones, as sums have limits.
func threePolygons(r *rand.Rand, i int) (p, q, s []api.Vec) {
	return somePolygon(r, 1+i%9), somePolygon(r, 1+i%7), somePolygon(r, 1+i%5)
}

// P3.8
func TestHullTheorem(t *testing.T) {
	r := rand.New(rand.NewSource(11))
	for i := range 500 {
		points := somePoints(r, 3+r.Intn(60), []int{2, 5, 30, 1000}[i%4])
		p, err := convex.Hull(points)
		if err == api.ErrPlan {
			continue
		}
		for _, v := range points {
			if at, e := convex.Place(p, v); at < 0 || err != api.OK || e != api.OK {
				t.Error(points, v, at, err, e)
			}
		}
		for _, v := range p {
			if !slices.Contains(points, v) {
				t.Error(points, v)
			}
		}
		if q := need(convex.Hull(shuffled(r, p))); !convex.Valid(p) || !slices.Equal(q, p) {
			t.Error(p, q)
		}
	}
	for _, p := range [][]api.Vec{corner2, hexagon, widest, round(3), turned(), round(4)[:32]} {
		for range 20 {
			if q := need(convex.Hull(shuffled(r, p))); !slices.Equal(q, p) {
				t.Error(p, q)
			}
		}
	}
}

// P3.9
func TestPick(t *testing.T) {
	r := rand.New(rand.NewSource(12))
	for i := range 500 {
		p := somePolygon(r, []int{2, 10, 100, 1000}[i%4])
		inside, boundary, err := convex.Points(p)
		if n := need(convex.Area(p)); n != 2*inside+boundary-2 || inside < 0 || boundary < len(p) || err != api.OK {
			t.Error(p, n, inside, boundary, err)
		}
	}
}

// P3.10
func TestSeparationTheorem(t *testing.T) {
	r := rand.New(rand.NewSource(13))
	for i := range 2000 {
		p, q, _ := threePolygons(r, i)
		q = movedBy(q, somePoints(r, 1, 9)[0])
		overlap := need(convex.Overlap(p, q))
		d, err := convex.Separate(p, q)
		if overlap != (err == api.ErrPlan) || !overlap && (err != api.OK || d == vec(0, 0) || !separates(d, p, q)) {
			t.Error(p, q, overlap, d, err)
		}
		s, err := convex.Sum(p, need(convex.Flip(q)))
		if err == api.OK && (need(convex.Place(s, vec(0, 0))) == 1) != overlap {
			t.Error(p, q, s, overlap)
		}
	}
}

// maximum is that of a direction over a polygon.
func maximum(p []api.Vec, d api.Vec) int {
	most, _, err := convex.Extreme(p, d)
	return need(most, err)
}

// P3.11
func TestMinkowskiTheorem(t *testing.T) {
	r := rand.New(rand.NewSource(14))
	for i := range 1000 {
		p, q, s := threePolygons(r, i)
		both, err := convex.Sum(p, q)
		other, e := convex.Sum(q, p)
		if !slices.Equal(both, other) || err != e {
			t.Error(p, q, both, err, other, e)
		}
		left, err := convex.Sum(both, s)
		right, e := convex.Sum(p, need(convex.Sum(q, s)))
		if !slices.Equal(left, right) || err != e {
			t.Error(p, q, s, left, err, right, e)
		}
		for _, d := range append(somePoints(r, 10, 5), somePoints(r, 10, 1000)...) {
			if d != vec(0, 0) && maximum(both, d) != maximum(p, d)+maximum(q, d) {
				t.Error(p, q, d)
			}
		}
		n := need(convex.Mixed(p, q))
		if n != need(convex.Mixed(q, p)) || n*n < 4*areaOf(p)*areaOf(q) {
			t.Error(p, q, n)
		}
		// the two are equal for polygons of the same form
		if n := need(convex.Mixed(p, p)); n*n != 4*areaOf(p)*areaOf(p) {
			t.Error(p, n)
		}
	}
	// all over the plane, so that the sum is beyond the limits
	p := hullOf(append(somePoints(r, 20, 1000), widest[2]))
	if n := need(convex.Mixed(p, widest)); n != need(convex.Mixed(widest, p)) || n*n < 4*areaOf(p)*areaOf(widest) {
		t.Error(p, n)
	}
}

// P3.12
func TestMotions(t *testing.T) {
	r := rand.New(rand.NewSource(15))
	for i := range 1000 {
		p, q, _ := threePolygons(r, i)
		q = movedBy(q, somePoints(r, 1, 9)[0])
		v := somePoints(r, 1, 900)[0]
		overlap := need(convex.Overlap(p, q))
		inside, boundary, _ := convex.Points(p)
		for _, pair := range [][2][]api.Vec{
			{need(convex.Move(p, v)), need(convex.Move(q, v))},
			{need(convex.Flip(p)), need(convex.Flip(q))},
		} {
			k, b, err := convex.Points(pair[0])
			if k != inside || b != boundary || err != api.OK {
				t.Error(p, pair[0], k, b, err)
			}
			if n := need(convex.Area(pair[0])); n != need(convex.Area(p)) {
				t.Error(p, pair[0], n)
			}
			if got := need(convex.Overlap(pair[0], pair[1])); got != overlap {
				t.Error(p, q, pair, got)
			}
		}
		if back := need(convex.Flip(need(convex.Flip(p)))); !slices.Equal(back, p) {
			t.Error(p, back)
		}
	}
}
