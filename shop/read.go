package shop

import "tinplate/api"

// A reader reads a proof in preorder.
type reader struct {
	tasks []task
	limit int
	rest  []api.Order
}

// accepts reads the tree for an order, and reports whether it is one, with good leaves.
func (r *reader) accepts(o order) bool {
	if len(r.rest) == 0 {
		return false
	}
	node := r.rest[0]
	r.rest = r.rest[1:]
	switch node.Kind {
	case api.OrderSplit:
		a, b := node.A, node.B
		return a != b && r.share(a, b) && r.accepts(o.with(a, b)) && r.accepts(o.with(b, a))
	case api.OrderChain:
		return r.isChain(node.Tasks, o) && (r.isLong(node.Tasks) || repeats(node.Tasks))
	case api.OrderSet:
		return r.isSet(node.Tasks) && r.isWide(node.Tasks, o)
	}
	return false
}

// share reports whether a and b are tasks of one machine.
func (r *reader) share(a, b int) bool {
	return r.isTask(a) && r.isTask(b) && r.tasks[a].Machine == r.tasks[b].Machine
}

func (r *reader) isTask(a int) bool { return a >= 0 && a < len(r.tasks) }

func (r *reader) isChain(list []int, o order) bool {
	if len(list) == 0 || !r.isTask(list[0]) {
		return false
	}
	for i, b := range list[1:] {
		if !r.isTask(b) || !o[list[i]][b] {
			return false
		}
	}
	return true
}

func (r *reader) isLong(chain []int) bool {
	length := 0
	for _, a := range chain {
		length += r.tasks[a].Time
	}
	return length > r.limit
}

// repeats reports whether a task is twice in a list of tasks.
func repeats(list []int) bool {
	var seen [api.MaxAll]bool
	for _, a := range list {
		if seen[a] {
			return true
		}
		seen[a] = true
	}
	return false
}

func (r *reader) isSet(list []int) bool {
	for _, a := range list {
		if !r.share(a, list[0]) {
			return false
		}
	}
	return len(list) > 0 && !repeats(list)
}

func (r *reader) isWide(set []int, o order) bool {
	m, ok := measure(r.tasks, o)
	return ok && m.bound(set) > r.limit
}
