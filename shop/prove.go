package shop

import "tinplate/api"

// A prover writes a proof in preorder.
type prover struct {
	tasks []task
	limit int
	nodes []api.Order
}

// refute writes the tree for an order, and reports whether there is one: there is none if a schedule of that order ends
// by the limit. Only tasks that have no order yet are split: so each leaf has its own ways to do all tasks one after the
// other, and as there are at most 25200 such ways, there are at most that many leaves.
func (p *prover) refute(o order) bool {
	m, _ := measure(p.tasks, o)
	if p.leaf(m) {
		return true
	}
	a, b, ok := m.undecided(o)
	if !ok {
		return false
	}
	p.nodes = append(p.nodes, api.Order{Kind: api.OrderSplit, A: a, B: b})
	return p.refute(o.with(a, b)) && p.refute(o.with(b, a))
}

// leaf writes a leaf that is good, if there is one. A chain is never needed: where one is too long, so is each of its
// tasks alone, with its head and its tail.
func (p *prover) leaf(m measures) bool {
	for machine := range api.MaxMachine + 1 {
		if bound, set := m.widest(machine); bound > p.limit {
			p.nodes = append(p.nodes, api.Order{Kind: api.OrderSet, Tasks: set})
			return true
		}
	}
	return false
}

// undecided returns two tasks of a machine that have no order yet: those that make the longest chains in the better of
// their orders, so that both trees of the split are soon at an end.
func (m measures) undecided(o order) (int, int, bool) {
	precedes := o.closed()
	first, second, longest := 0, 0, 0
	for b, t := range m.tasks {
		for a, s := range m.tasks[:b] {
			if s.Machine != t.Machine || precedes[a][b] || precedes[b][a] {
				continue
			}
			chain := s.Time + t.Time + min(m.heads[a]+m.tails[b], m.heads[b]+m.tails[a])
			if chain > longest {
				first, second, longest = a, b, chain
			}
		}
	}
	return first, second, longest > 0
}
