package code

import (
	"tinplate/api"
	"tinplate/dims"
)

// A verifier goes through well-formed code, and puts what its dimensions must satisfy into a system.
type verifier struct {
	*dims.System
	code  api.Code
	types []api.Scheme // of the procedures before
}

// typeOf returns the type of the procedure after those whose types are known.
func typeOf(c api.Code, types []api.Scheme, proc api.Proc) (api.Scheme, api.Errno) {
	v := verifier{System: dims.New(proc.Params, c.Units), code: c, types: types}
	return v.Type(v.result(proc.Ops))
}

// result returns the form of what the first end of a procedure returns.
func (v *verifier) result(ops []api.Op) dims.Form {
	ends := v.ends(ops)
	for _, end := range ends[1:] {
		v.Equate(ends[0], end)
	}
	return ends[0]
}

// ends returns the forms of what the ends of a procedure return.
func (v *verifier) ends(ops []api.Op) []dims.Form {
	var ends []dims.Form
	// The stacks with which each instruction is reached. They come in the order of the instructions from which they do.
	ways := make([][]stack[dims.Form], len(ops))
	ways[0] = append(ways[0], nil)
	for at, op := range ops {
		v.join(ways[at])
		s, taken := ways[at][0].take(takes(v.code, op))
		switch op.What {
		case api.CodeEnd:
			ends = append(ends, taken[0])
		case api.CodeLess:
			v.Equate(taken[0], taken[1])
		case api.CodeJump:
		default:
			s = append(s, v.form(op, taken))
		}
		for _, next := range following(op, at) {
			ways[next] = append(ways[next], s)
		}
	}
	return ends
}

// join equates the forms that are on the stack on different ways.
func (v *verifier) join(ways []stack[dims.Form]) {
	for i, way := range ways[1:] {
		for k, form := range way {
			v.Equate(ways[i][k], form)
		}
	}
}

// form returns the form of what an instruction puts on the stack, for what it takes from there.
func (v *verifier) form(op api.Op, taken []dims.Form) dims.Form {
	switch op.What {
	case api.CodePush:
		return v.Number(op.N, op.Units)
	case api.CodeLoad:
		return v.Param(op.N)
	case api.CodeAdd, api.CodeSub:
		v.Equate(taken[0], taken[1])
		return taken[0]
	case api.CodeMul:
		return v.Plus(taken[0], 1, taken[1])
	case api.CodeDiv:
		return v.Plus(taken[0], -1, taken[1])
	case api.CodePow:
		return v.Plus(dims.Form{}, op.N, taken[0])
	case api.CodeRoot:
		return v.Root(taken[0])
	default: // api.CodeCall
		return v.Call(v.types[op.N], taken)
	}
}
