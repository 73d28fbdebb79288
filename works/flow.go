package works

import "tinplate/api"

// Each lot is two nodes of a flow: lists go in at one, and out at the other one. The number 0, which no lot has, is
// outside: lists come out of it into the lots of from, and go into it from those of to.
const (
	nodes = 2 * (api.MaxLots + 1)
	open  = 2 // room that is never used up, as a lot lets only one list pass
)

func in(no int) int { return 2 * no }

func out(no int) int { return 2*no + 1 }

// A flow is as many lists from lots to other ones as there can be if no two have a lot in common.
type flow struct {
	room    [nodes][nodes]int // for so many lists more from node to node; backwards, for those that may be taken back
	reached [nodes]bool       // where one more list could get to
}

func (f *floor) flow(from, to set) *flow {
	var g flow
	for _, no := range from.list() {
		g.room[out(0)][in(no)] = open
	}
	for _, no := range to.list() {
		g.room[out(no)][in(0)] = open
	}
	for i, l := range f.lots {
		g.room[in(i+1)][out(i+1)] = 1
		for _, other := range l.from.list() {
			g.room[out(other)][in(i+1)] = open
		}
	}
	for g.extend(out(0)) {
		clear(g.reached[:])
	}
	return &g
}

// extend takes one more list on from a node to the end, if there is a way.
func (g *flow) extend(node int) bool {
	if node == in(0) {
		return true
	}
	g.reached[node] = true
	for next := range nodes {
		if g.room[node][next] > 0 && !g.reached[next] && g.extend(next) {
			g.room[node][next]--
			g.room[next][node]++
			return true
		}
	}
	return false
}

// stop returns the lots that let no more list pass.
func (g *flow) stop() set {
	var stop set
	for no := 1; no <= api.MaxLots; no++ {
		if g.reached[in(no)] && !g.reached[out(no)] {
			stop |= setOf(no)
		}
	}
	return stop
}

// lists returns the lists.
func (g *flow) lists() [][]int {
	var lists [][]int
	for no := 1; no <= api.MaxLots; no++ {
		if g.passes(0, no) {
			lists = append(lists, g.list(no))
		}
	}
	return lists
}

// list returns the list that begins with a lot.
func (g *flow) list(no int) []int {
	list := []int{no}
	for !g.passes(no, 0) {
		no = g.next(no)
		list = append(list, no)
	}
	return list
}

// next returns the lot to which the list that passes a lot goes on.
func (g *flow) next(no int) int {
	other := no + 1
	for !g.passes(no, other) {
		other++
	}
	return other
}

// passes reports whether a list goes from one lot to another one.
func (g *flow) passes(no, other int) bool { return g.room[in(other)][out(no)] > 0 }
