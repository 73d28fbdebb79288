package branch

import (
	"slices"

	"tinplate/api"
)

// A reader reads a proof in preorder.
type reader struct {
	measures
	open []box // whose trees are still to come, the next one last
}

// accepts reports whether the nodes are exactly one proof, and all its leaves are good.
func (r *reader) accepts(proof []api.Node) bool {
	return slices.IndexFunc(proof, r.refuses) < 0 && len(r.open) == 0
}

// refuses reads one node, and reports whether it cannot be the next one of a proof or is not good.
func (r *reader) refuses(node api.Node) bool {
	if len(r.open) == 0 {
		return true
	}
	last := len(r.open) - 1
	b := r.open[last]
	r.open = r.open[:last]
	if node.Var < 0 {
		return !r.good(node, b)
	}
	if node.Var >= len(r.w.C) || !b.divides(node.Var, node.At) {
		return true
	}
	lower, upper := b.split(node.Var, node.At)
	r.open = append(r.open, upper, lower)
	return false
}
