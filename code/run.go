package code

import (
	"tinplate/api"
	"tinplate/ratio"
)

// A machine executes well-formed code, and counts the instructions.
type machine struct {
	code           api.Code
	scales         ratio.Scales
	fuel, executed int
}

// call executes a procedure.
func (m *machine) call(proc int, args []api.Ratio) (api.Ratio, api.Errno) {
	ops := m.code.Procs[proc].Ops
	var s stack[api.Ratio]
	for at := 0; ; at++ {
		if m.executed == m.fuel {
			return api.Ratio{}, api.ErrFuel
		}
		m.executed++
		op := ops[at]
		rest, taken := s.take(takes(m.code, op))
		s = rest
		switch op.What {
		case api.CodeEnd:
			return taken[0], api.OK
		case api.CodeJump:
			at += op.N
		case api.CodeLess:
			if !ratio.Less(taken[0], taken[1]) {
				at += op.N
			}
		default:
			value, err := m.value(op, args, taken)
			if err != api.OK {
				return api.Ratio{}, err
			}
			s = append(s, value)
		}
	}
}

// value returns what an instruction puts on the stack, for the arguments of its procedure and what it takes from there.
func (m *machine) value(op api.Op, args, taken []api.Ratio) (api.Ratio, api.Errno) {
	switch op.What {
	case api.CodePush:
		return m.scales.Measure(op.N, op.Units)
	case api.CodeLoad:
		return args[op.N], api.OK
	case api.CodeAdd:
		return ratio.Add(taken[0], taken[1])
	case api.CodeSub:
		return ratio.Sub(taken[0], taken[1])
	case api.CodeMul:
		return ratio.Mul(taken[0], taken[1])
	case api.CodeDiv:
		return ratio.Div(taken[0], taken[1])
	case api.CodePow:
		return ratio.Pow(taken[0], op.N)
	case api.CodeRoot:
		return ratio.Root(taken[0])
	default: // api.CodeCall
		return m.call(op.N, taken)
	}
}
