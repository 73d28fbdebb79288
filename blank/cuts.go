package blank

import "tinplate/api"

// A rect is a sheet or a part of one.
type rect struct{ w, h int }

func (r rect) holds(item api.Item) bool { return item.W <= r.w && item.H <= r.h }

// split returns the two parts, in the order of a plan, that a step cuts r into: false if it does not cut it.
func (r rect) split(step api.Cut) (rect, rect, bool) {
	n := step.N
	switch {
	case step.Kind == api.CutWide && n >= 1 && n < r.w:
		return rect{n, r.h}, rect{r.w - n, r.h}, true
	case step.Kind == api.CutHigh && n >= 1 && n < r.h:
		return rect{r.w, n}, rect{r.w, r.h - n}, true
	}
	return rect{}, rect{}, false
}

// A choice is the first step of the best plan for a rectangle, and the value of that plan.
type choice struct {
	value int
	step  api.Cut
}

// choices has the choice of each rectangle, by its width and its height.
type choices [][]choice

func (c choices) of(r rect) choice { return c[r.w][r.h] }

// choose makes the choices of all rectangles up to the whole one.
func choose(whole rect, items []api.Item) choices {
	c := make(choices, whole.w+1)
	for w := range c {
		c[w] = make([]choice, whole.h+1)
		for h := range c[w] {
			c[w][h] = c.best(rect{w, h}, items)
		}
	}
	return c
}

// best makes the choice of r from those of the smaller rectangles. The first step of several with the same value
// counts; a cut beyond the middle is worth what one before it is.
func (c choices) best(r rect, items []api.Item) choice {
	best := choice{value: 0, step: api.Cut{Kind: api.CutWaste}}
	offer := func(value, kind, n int) {
		if value > best.value {
			best = choice{value, api.Cut{Kind: kind, N: n}}
		}
	}
	for i, item := range items {
		if r.holds(item) {
			offer(item.Value, api.CutItem, i)
		}
	}
	for x := 1; x <= r.w/2; x++ {
		offer(c.of(rect{x, r.h}).value+c.of(rect{r.w - x, r.h}).value, api.CutWide, x)
	}
	for y := 1; y <= r.h/2; y++ {
		offer(c.of(rect{r.w, y}).value+c.of(rect{r.w, r.h - y}).value, api.CutHigh, y)
	}
	return best
}

// appendPlan appends the plan of r, as it is chosen, to plan.
func (c choices) appendPlan(plan []api.Cut, r rect) []api.Cut {
	step := c.of(r).step
	plan = append(plan, step)
	if first, second, ok := r.split(step); ok {
		plan = c.appendPlan(plan, first)
		plan = c.appendPlan(plan, second)
	}
	return plan
}

// A reader reads a plan step by step, and counts the items that it cuts.
type reader struct {
	items  []api.Item
	rest   []api.Cut
	value  int
	counts []int
}

// read reads the plan of r: false if there is none at the beginning of the rest.
func (t *reader) read(r rect) bool {
	if len(t.rest) == 0 {
		return false
	}
	step := t.rest[0]
	t.rest = t.rest[1:]
	switch step.Kind {
	case api.CutWaste:
		return step.N == 0
	case api.CutItem:
		return t.take(r, step.N)
	}
	first, second, ok := r.split(step)
	return ok && t.read(first) && t.read(second)
}

// take counts the item with the index n: false if there is none, or it does not fit into r.
func (t *reader) take(r rect, n int) bool {
	if n < 0 || n >= len(t.items) || !r.holds(t.items[n]) {
		return false
	}
	t.value += t.items[n].Value
	t.counts[n]++
	return true
}
