package branch

import (
	"tinplate/api"
	"tinplate/linear"
)

// A relaxation is the linear program of a box, in which variables need not be whole. Its variables say how far those
// of the box are from a corner where the costs are least: so it has no cost below 0, and a minimum even where it
// leaves out the far ends of the box. (What it finds is only proposed; the measures tell what is good.)
type relaxation struct {
	program           api.Program
	near, sign, width [api.MaxVars]int // sign says which way the variable goes from near: 0 if it cannot
}

func relax(w api.Whole, costs []int, b box) *relaxation {
	r := &relaxation{program: api.Program{C: make([]int, len(costs))}}
	for j, c := range costs {
		r.near[j], r.width[j] = b.low[j], b.high[j]-b.low[j]
		r.sign[j] = min(r.width[j], 1)
		if c < 0 {
			r.near[j], r.sign[j] = b.high[j], -r.sign[j]
		}
		r.program.C[j] = c * r.sign[j]
	}
	for i, row := range w.A {
		r.add(row, w.B[i])
	}
	return r
}

// add adds a row of the box.
func (r *relaxation) add(row []int, limit int) {
	turned := make([]int, len(row))
	for j, x := range row {
		turned[j] = x * r.sign[j]
		limit -= x * r.near[j]
	}
	r.program.A = append(r.program.A, turned)
	r.program.B = append(r.program.B, max(-api.MaxCost, min(limit, api.MaxCost)))
}

// solve returns the point of minimum cost, and the multipliers that show that it is one; or no point, and those that
// show that there is none. Far ends become rows, as long as there is room, when a point is beyond them.
func (r *relaxation) solve() (point, multipliers api.Point) {
	for {
		x, err := linear.Minimum(r.program)
		if err != api.OK {
			y, _ := linear.Farkas(r.program)
			return api.Point{}, y
		}
		far := r.beyond(x)
		if far < 0 || len(r.program.A) == api.MaxRows {
			y, _ := linear.Dual(r.program)
			return x, y
		}
		end := make([]int, len(r.program.C))
		end[far] = -1
		r.program.A = append(r.program.A, end)
		r.program.B = append(r.program.B, -r.width[far])
	}
}

// beyond returns the first variable that is beyond its far end, or -1.
func (r *relaxation) beyond(x api.Point) int {
	for j, num := range x.Num {
		if num > r.width[j]*x.Den {
			return j
		}
	}
	return -1
}

// fraction returns where x lies between two whole numbers of a variable; the middle of the box, if it nowhere does.
func (r *relaxation) fraction(b box, x api.Point) (variable, at int) {
	for j, num := range x.Num {
		if num%x.Den != 0 && num < r.width[j]*x.Den {
			return j, (r.near[j]*x.Den + r.sign[j]*num) / x.Den
		}
	}
	return b.middle()
}
