package code

import (
	"slices"

	"tinplate/api"
)

const (
	maxParams = 3
	maxNumber = 9999999
	maxPower  = 3
)

// checkProc checks the procedure with that index.
func checkProc(c api.Code, index int) api.Errno {
	p := c.Procs[index]
	switch {
	case p.Params < 0 || p.Params > maxParams:
		return api.ErrArg
	case len(p.Ops) > api.MaxOps:
		return api.ErrLimit
	}
	for at := range p.Ops {
		if !isOp(c, index, at) {
			return api.ErrForm
		}
	}
	if !stackFits(c, p.Ops) {
		return api.ErrStack
	}
	return api.OK
}

// isOp reports whether an instruction of a procedure is one that there is.
func isOp(c api.Code, proc, at int) bool {
	p := c.Procs[proc]
	op := p.Ops[at]
	switch op.What {
	case api.CodePush:
		return isWithin(op.N, 0, maxNumber) && len(op.Units) == c.Units && areEntries(op.Units)
	case api.CodeLoad:
		return isWithin(op.N, 0, p.Params-1)
	case api.CodePow:
		return isWithin(op.N, -maxPower, maxPower)
	case api.CodeLess, api.CodeJump:
		return isWithin(op.N, 0, len(p.Ops)-at-2)
	case api.CodeCall:
		return isWithin(op.N, 0, proc-1)
	}
	return isWithin(op.What, api.CodePush, api.CodeEnd)
}

func isWithin(x, low, high int) bool { return low <= x && x <= high }

func areEntries(exponents []int) bool {
	outside := func(x int) bool { return !isWithin(x, -api.MaxEntry, api.MaxEntry) }
	return !slices.ContainsFunc(exponents, outside)
}

// takes returns how many values an instruction takes from the stack.
func takes(c api.Code, op api.Op) int {
	switch op.What {
	case api.CodePush, api.CodeLoad, api.CodeJump:
		return 0
	case api.CodePow, api.CodeRoot, api.CodeEnd:
		return 1
	case api.CodeCall:
		return c.Procs[op.N].Params
	}
	return 2
}

// pushes reports whether an instruction puts a value on the stack.
func pushes(op api.Op) bool {
	return op.What != api.CodeLess && op.What != api.CodeJump && op.What != api.CodeEnd
}

// following returns the indices of the instructions with which execution may go on after the one at an index. All of
// them are greater: there are no ways back.
func following(op api.Op, at int) []int {
	switch op.What {
	case api.CodeEnd:
		return nil
	case api.CodeJump:
		return []int{at + 1 + op.N}
	case api.CodeLess:
		return []int{at + 1, at + 1 + op.N}
	}
	return []int{at + 1}
}

const unreached = -1

// stackFits reports whether every instruction is reached, with the same number of values on every way, and these are
// neither too few nor too many.
func stackFits(c api.Code, ops []api.Op) bool {
	depths := slices.Repeat([]int{unreached}, len(ops)+1)
	depths[0] = 0
	for at, op := range ops {
		depth, ok := depthAfter(c, op, depths[at])
		if !ok {
			return false
		}
		for _, next := range following(op, at) {
			if depths[next] != unreached && depths[next] != depth {
				return false
			}
			depths[next] = depth
		}
	}
	return depths[len(ops)] == unreached
}

// depthAfter returns how many values are on the stack after an instruction: false if it is not reached, or they do not
// fit.
func depthAfter(c api.Code, op api.Op, depth int) (int, bool) {
	if depth == unreached || depth < takes(c, op) || op.What == api.CodeEnd && depth != 1 {
		return 0, false
	}
	depth -= takes(c, op)
	if pushes(op) {
		depth++
	}
	return depth, depth <= api.MaxStack
}
