package line

import (
	"slices"

	"tinplate/api"
)

// speed returns the greatest mean of a cycle: false if there is no cycle. A closed walk is made up of cycles that go
// through no vertex twice, so one of these has the greatest mean, and it has no more arcs than there are vertices.
func speed(a matrix[span]) (api.Pace, bool) {
	best := api.Pace{}
	power := a
	for arcs := 1; arcs <= len(a); arcs++ {
		if most := int(power.trace()); most != api.Never && (best.Den == 0 || most*best.Den > best.Num*arcs) {
			best = api.Pace{Num: most, Den: arcs}
		}
		power = power.times(a)
	}
	if best.Den == 0 {
		return best, false
	}
	common := gcd(best.Num, best.Den)
	return api.Pace{Num: best.Num / common, Den: best.Den / common}, true
}

// level returns a in units of 1 / Den and relative to its speed: no cycle has a sum above 0, and those with the mean
// Speed have the sum 0. It is false if there is no cycle.
func level(a matrix[span]) (matrix[span], bool) {
	pace, ok := speed(a)
	if !ok {
		return nil, false
	}
	return rowsOf(a, func(entry span) span {
		if entry == api.Never {
			return api.Never
		}
		return span(pace.Den)*entry - span(pace.Num)
	}), true
}

// shortest returns the first of the cycles of a level matrix with the sum 0 and the fewest arcs. A closed walk with so
// few arcs goes through no vertex twice, or a part of it would be a cycle with the sum 0 and fewer arcs.
func shortest(b matrix[span]) []int {
	powers := []matrix[span]{identity[span](len(b)), b}
	for powers[len(powers)-1].trace() != 0 {
		powers = append(powers, powers[len(powers)-1].times(b))
	}
	arcs := len(powers) - 1
	first := slices.Index(loops(powers[arcs]), true)
	cycle := []int{first}
	at, passed := first, span(0)
	for left := arcs - 1; left > 0; left-- {
		for next := range b {
			further := passed.times(b[next][at])
			if further.times(powers[left][first][next]) == 0 {
				cycle = append(cycle, next)
				at, passed = next, further
				break
			}
		}
	}
	return cycle
}

// loops tells of each vertex whether its entry on the diagonal is 0.
func loops(power matrix[span]) []bool {
	list := make([]bool, len(power))
	for i := range power {
		list[i] = power[i][i] == 0
	}
	return list
}

// critical returns the vertices of a level matrix that lie on a cycle with the sum 0.
func critical(b matrix[span]) []int {
	var list []int
	for i, loop := range loops(b.times(b.closure())) {
		if loop {
			list = append(list, i)
		}
	}
	return list
}

// connected reports whether there is a walk from every vertex to every other one.
func connected(a matrix[span]) bool {
	arcs := matrix[way](rowsOf(a, func(entry span) way { return entry != api.Never }))
	return !slices.ContainsFunc(arcs.closure(), func(row []way) bool { return slices.Contains(row, false) })
}

// period returns the least number of steps after which the powers of a connected level matrix come again: the least
// common multiple, over its critical vertices, of the greatest common divisor of the lengths of closed walks with the
// sum 0. The walks from a vertex to a cycle of its component and back, once with that cycle and once without, differ in
// length by that of the cycle, and none of them needs more arcs than three times the number of vertices.
func period(b matrix[span]) int {
	divisors := make([]int, len(b))
	power := b
	for arcs := 1; arcs <= 3*len(b); arcs++ {
		for i, loop := range loops(power) {
			if loop {
				divisors[i] = gcd(divisors[i], arcs)
			}
		}
		power = power.times(b)
	}
	steps := 1
	for _, divisor := range divisors {
		if divisor > 0 {
			steps = lcm(steps, divisor)
		}
	}
	return steps
}

// start returns the least k for which the powers k and k + period of a connected level matrix are the same. From there
// on they all are, so that k can be found by halving.
func start(b matrix[span], period int) int {
	further := b.power(period)
	again := func(power matrix[span]) bool { return power.equals(power.times(further)) }
	early, k := identity[span](len(b)), 0
	if again(early) {
		return 0
	}
	doubled := []matrix[span]{b} // the powers 1, 2, 4 and so on
	for last := b; !again(last); {
		last = last.times(last)
		doubled = append(doubled, last)
	}
	for i, power := range slices.Backward(doubled) {
		if later := early.times(power); !again(later) {
			early, k = later, k+1<<i
		}
	}
	return k + 1
}
