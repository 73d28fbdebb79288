package branch

import "tinplate/api"

// A prover writes a proof in preorder.
type prover struct {
	measures
	nodes []api.Node
}

// prove writes the tree for a box. A box with a single vector always has a plain leaf that is good: so a tree has at
// most 8^5 leaves, wherever the boxes are split.
func (p *prover) prove(b box) {
	if p.plain(b) {
		return
	}
	last := p.goals[len(p.goals)-1]
	r := relax(p.w, last.costs, b)
	x, y := r.solve()
	if p.leaf(b, y.Num[:len(p.w.A)], y.Den) {
		return
	}
	variable, at := r.fraction(b, x)
	p.nodes = append(p.nodes, api.Node{Var: variable, At: at})
	lower, upper := b.split(variable, at)
	p.prove(lower)
	p.prove(upper)
}

// plain writes a leaf that has the costs or a row alone, if one is good.
func (p *prover) plain(b box) bool {
	for i := range 1 + len(p.w.A) {
		y := make([]int, len(p.w.A))
		if i > 0 {
			y[i-1] = 1
		}
		if p.leaf(b, y, 1) {
			return true
		}
	}
	return false
}

// leaf writes a leaf with these multipliers, which it keeps, if it is good.
func (p *prover) leaf(b box, y []int, den int) bool {
	node := api.Node{Var: -1, Y: y, Den: den}
	if !p.good(node, b) {
		return false
	}
	p.nodes = append(p.nodes, node)
	return true
}
