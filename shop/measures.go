package shop

import "slices"

// Measures are the heads and the tails of the tasks in an order.
type measures struct {
	tasks        []task
	heads, tails []int
}

// measure measures an order: false if it has a cycle.
func measure(tasks []task, o order) (measures, bool) {
	after, ok := tails(tasks, o)
	if !ok {
		return measures{}, false
	}
	before, _ := tails(tasks, o.reversed())
	return measures{tasks, before, after}, true
}

// bound returns how long a set of tasks of one machine takes at least, with what comes before it and after it.
func (m measures) bound(set []int) int {
	head, tail, time := m.heads[set[0]], m.tails[set[0]], 0
	for _, a := range set {
		head = min(head, m.heads[a])
		tail = min(tail, m.tails[a])
		time += m.tasks[a].Time
	}
	return head + time + tail
}

// widest returns the largest bound of a set of tasks of the machine, and the first of the smallest such sets.
func (m measures) widest(machine int) (int, []int) {
	largest := 0
	var best []int
	var extend func(set []int, from int)
	extend = func(set []int, from int) { // in lexicographic order
		for a := from; a < len(m.tasks); a++ {
			if m.tasks[a].Machine != machine {
				continue
			}
			wider := append(slices.Clone(set), a)
			if bound := m.bound(wider); bound > largest || bound == largest && len(wider) < len(best) {
				largest, best = bound, wider
			}
			extend(wider, a+1)
		}
	}
	extend(nil, 0)
	return largest, best
}
