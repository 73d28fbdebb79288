package shop

import "tinplate/api"

// An order tells, at a and b, whether the task a directly precedes the task b.
type order [api.MaxAll][api.MaxAll]bool

func byJobs(tasks []task) order {
	var o order
	for i := range tasks {
		if follows(tasks, i) {
			o[i-1][i] = true
		}
	}
	return o
}

func (o order) with(a, b int) order {
	o[a][b] = true
	return o
}

func (o order) reversed() order {
	var r order
	for a, row := range o {
		for b, precedes := range row {
			r[b][a] = precedes
		}
	}
	return r
}

// closed tells which tasks precede which ones, directly or not.
func (o order) closed() order {
	for via := range o {
		for a := range o {
			for b := range o {
				o[a][b] = o[a][b] || o[a][via] && o[via][b]
			}
		}
	}
	return o
}

// A look measures the chains of an order that begin after a task.
type look struct {
	tasks []task
	order order
	open  [api.MaxAll]bool // whether its chains are being measured
	known [api.MaxAll]bool
	tails [api.MaxAll]int
}

// A circle is what a look panics with where a task precedes itself.
type circle struct{}

func (l *look) tail(a int) int {
	if l.open[a] {
		panic(circle{})
	}
	if l.known[a] {
		return l.tails[a]
	}
	l.open[a] = true
	longest := 0
	for b, t := range l.tasks {
		if l.order[a][b] {
			longest = max(longest, t.Time+l.tail(b))
		}
	}
	l.open[a] = false
	l.known[a], l.tails[a] = true, longest
	return longest
}

// tails returns the tail of each task, and whether there are any: false if the order has a cycle.
func tails(tasks []task, o order) (list []int, ok bool) {
	defer func() {
		switch reason := recover().(type) {
		case nil:
		case circle:
			list, ok = nil, false
		default:
			panic(reason)
		}
	}()
	l := look{tasks: tasks, order: o}
	for a := range tasks {
		list = append(list, l.tail(a))
	}
	return list, true
}
