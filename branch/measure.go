package branch

import "tinplate/api"

// A box is the integer vectors from low to high. Both are arrays, so that a copy of a box is a box of its own.
type box struct{ low, high [api.MaxVars]int }

func boxOf(w api.Whole) box {
	var b box
	copy(b.high[:], w.Upper)
	return b
}

// divides reports whether a box can be split there.
func (b box) divides(variable, at int) bool { return b.low[variable] <= at && at < b.high[variable] }

func (b box) split(variable, at int) (lower, upper box) {
	lower, upper = b, b
	lower.high[variable] = at
	upper.low[variable] = at + 1
	return lower, upper
}

// middle returns where the widest variable is split in two halves.
func (b box) middle() (variable, at int) {
	for j := range b.low {
		if b.high[j]-b.low[j] > b.high[variable]-b.low[variable] {
			variable = j
		}
	}
	return variable, (b.low[variable] + b.high[variable]) / 2
}

// A goal is a way to be good: the bound of a leaf for the costs, rounded up, is at least least. (A bound that is
// above cost - 1, which may not be an int, is at least cost when rounded up.)
type goal struct {
	costs []int
	least int
}

// measures tell which leaves are good.
type measures struct {
	w     api.Whole
	goals []goal
}

func measuresOf(w api.Whole, feasible bool, cost int) measures {
	goals := []goal{{costs: make([]int, len(w.C)), least: 1}}
	if feasible {
		goals = append(goals, goal{costs: w.C, least: cost})
	}
	return measures{w: w, goals: goals}
}

// good reports whether the node, as a leaf for the box, is valid and reaches a goal.
func (m measures) good(leaf api.Node, b box) bool {
	if !m.validLeaf(leaf) {
		return false
	}
	for _, g := range m.goals {
		if roundUp(m.bound(leaf, b, g.costs), leaf.Den) >= g.least {
			return true
		}
	}
	return false
}

func (m measures) validLeaf(leaf api.Node) bool {
	if len(leaf.Y) != len(m.w.A) || leaf.Den < 1 || leaf.Den > api.MaxProof {
		return false
	}
	for _, y := range leaf.Y {
		if y < 0 || y > api.MaxProof {
			return false
		}
	}
	return true
}

// bound returns the bound of a valid leaf, times Den; it is below 2^56. What remains of the costs is linear in each
// variable, so that its minimum is at an end.
func (m measures) bound(leaf api.Node, b box, costs []int) int {
	sum := 0
	for i, y := range leaf.Y {
		sum += y * m.w.B[i]
	}
	for j, c := range costs {
		rest := c * leaf.Den
		for i, y := range leaf.Y {
			rest -= y * m.w.A[i][j]
		}
		sum += min(b.low[j]*rest, b.high[j]*rest)
	}
	return sum
}

func roundUp(num, den int) int {
	if num%den > 0 {
		return num/den + 1
	}
	return num / den
}
