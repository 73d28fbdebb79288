package linear

import "tinplate/api"

// What a program may come to.
const (
	optimal       = 0
	contradictory = 1
	unbounded     = 2
)

// A tableau says how the basic variables depend on the free ones, which are 0:
//
//	den * basic[i] = cells[i][0] + the sum of cells[i][1+j] * free[j]
//
// No variable is below 0. Variable 0 is a help that is added to every row, so that there is a point to begin at;
// 1 to width are the program's own; then comes one for each row, by which the row exceeds its number of B. All
// cells are minors of the program's numbers: none is above 10^13, and no reduced cost above 10^17.
type tableau struct {
	program     api.Program
	den         int
	cells       [][]int
	basic, free []int
	closed      []bool // variables that must stay 0
	falling     int    // the column along which costs fall without end
}

func newTableau(p api.Program) *tableau {
	n, m := len(p.C), len(p.A)
	t := &tableau{program: p, den: 1, closed: make([]bool, 1+n+m)}
	for v := range 1 + n {
		t.free = append(t.free, v)
	}
	for i, row := range p.A {
		t.basic = append(t.basic, 1+n+i)
		t.cells = append(t.cells, append([]int{-p.B[i], 1}, row...))
	}
	return t
}

// solve takes the program to its end, and says which one it is.
func (t *tableau) solve() int {
	t.begin()
	t.minimize(t.weightOf(0))
	// Of several variables that may leave, the first does: so the help is not basic once it is 0.
	if t.rowOf(0) >= 0 {
		return contradictory
	}
	if !t.minimize(t.costs()) {
		return unbounded
	}
	for v := range t.program.C {
		t.minimize(t.weightOf(1 + v))
	}
	return optimal
}

// begin makes the help as large as the row that is violated most asks for.
func (t *tableau) begin() {
	worst := -1
	for i, row := range t.cells {
		if row[0] < 0 && (worst < 0 || row[0] < t.cells[worst][0]) {
			worst = i
		}
	}
	if worst >= 0 {
		t.pivot(worst, 0)
	}
}

// weightOf returns the weights by which minimize makes that variable small.
func (t *tableau) weightOf(variable int) []int {
	weights := make([]int, len(t.closed))
	weights[variable] = 1
	return weights
}

func (t *tableau) costs() []int {
	weights := make([]int, len(t.closed))
	copy(weights[1:], t.program.C)
	return weights
}

// minimize makes the sum of the variables, each times its weight, as small as can be while closed variables stay 0,
// and then closes those that would make it greater. It reports false if there is no minimum.
func (t *tableau) minimize(weights []int) bool {
	for {
		column := t.entering(weights)
		if column < 0 {
			break
		}
		row := t.leaving(column)
		if row < 0 {
			t.falling = column
			return false
		}
		t.pivot(row, column)
	}
	for j, v := range t.free {
		if t.reduced(weights, j) > 0 {
			t.closed[v] = true
		}
	}
	return true
}

// reduced returns den times what the sum of weights gains when the free variable of that column grows by 1.
func (t *tableau) reduced(weights []int, column int) int {
	sum := t.den * weights[t.free[column]]
	for i, v := range t.basic {
		sum += weights[v] * t.cells[i][1+column]
	}
	return sum
}

// entering returns the column of the first variable whose growth lowers the sum of weights, or -1. (The first to
// enter and the first to leave: Bland's rule, by which no tableau comes again.)
func (t *tableau) entering(weights []int) int {
	best := -1
	for j, v := range t.free {
		if !t.closed[v] && (best < 0 || v < t.free[best]) && t.reduced(weights, j) < 0 {
			best = j
		}
	}
	return best
}

// leaving returns the row whose variable is the first to reach 0 when that of the column grows, or -1.
func (t *tableau) leaving(column int) int {
	best := -1
	for i, row := range t.cells {
		if row[1+column] < 0 && (best < 0 || t.before(i, best, column)) {
			best = i
		}
	}
	return best
}

// before reports whether row i reaches 0 before row k does, or at the same time with an earlier variable.
func (t *tableau) before(i, k, column int) bool {
	here := product(t.cells[i][0], -t.cells[k][1+column])
	there := product(t.cells[k][0], -t.cells[i][1+column])
	return here.less(there) || here == there && t.basic[i] < t.basic[k]
}

// pivot exchanges the basic variable of the row for the free one of the column.
func (t *tableau) pivot(row, column int) {
	own := t.cells[row]
	den := own[1+column]
	own[1+column] = -t.den
	if den < 0 {
		den = -den
	} else {
		for j := range own {
			own[j] = -own[j]
		}
	}
	for i, other := range t.cells {
		if i == row {
			continue
		}
		factor := other[1+column]
		other[1+column] = 0
		for j := range other {
			other[j] = product(other[j], den).plus(product(factor, own[j])).over(t.den)
		}
	}
	t.den = den
	t.basic[row], t.free[column] = t.free[column], t.basic[row]
}

func (t *tableau) rowOf(variable int) int {
	for i, v := range t.basic {
		if v == variable {
			return i
		}
	}
	return -1
}

// point returns where the program's own variables are.
func (t *tableau) point() api.Point {
	return t.own(0)
}

// direction returns where they go when the falling column's variable grows.
func (t *tableau) direction() api.Point {
	d := t.own(1 + t.falling)
	if v := t.free[t.falling]; v <= len(d.Num) {
		d.Num[v-1] = t.den
	}
	return d
}

// own returns the cells of a column for the program's own variables, 0 for the free ones.
func (t *tableau) own(cell int) api.Point {
	num := make([]int, len(t.program.C))
	for i, v := range t.basic {
		if 1 <= v && v <= len(num) {
			num[v-1] = t.cells[i][cell]
		}
	}
	return api.Point{Num: num, Den: t.den}
}

// prices returns for each row what the minimum of the weights gains when the row's number of B grows by 1.
func (t *tableau) prices(weights []int) api.Point {
	first := 1 + len(t.program.C)
	num := make([]int, len(t.program.A))
	for j, v := range t.free {
		if v >= first {
			num[v-first] = t.reduced(weights, j)
		}
	}
	return api.Point{Num: num, Den: t.den}
}
