package lang

import (
	"slices"

	"tinplate/api"
	"tinplate/dims"
	"tinplate/ratio"
)

// An evaluation counts its steps.
type evaluation struct {
	source api.Source
	scales ratio.Scales
	steps  int
}

// A frame is what the parameters of a definition are in a call.
type frame struct {
	params []string
	args   []api.Ratio
}

func (v *evaluation) call(def api.Def, args []api.Ratio) (api.Ratio, api.Errno) {
	return v.value(def.Body, frame{def.Params, args})
}

func (v *evaluation) value(e api.Expr, f frame) (api.Ratio, api.Errno) {
	if v.steps == api.MaxFuel {
		return api.Ratio{}, api.ErrFuel
	}
	v.steps++
	if e.Kind == api.ExprIf {
		return v.branch(e, f)
	}
	parts, err := v.values(e.Parts, f)
	if err != api.OK {
		return api.Ratio{}, err
	}
	switch e.Kind {
	case api.ExprNum:
		return v.scales.Measure(e.N, dims.Exponents(v.source.Units, e.Units))
	case api.ExprVar:
		return f.args[slices.Index(f.params, e.Name)], api.OK
	case api.ExprCall:
		return v.call(v.source.Defs[find(v.source.Defs, e.Name)], parts)
	case api.ExprPow:
		return ratio.Pow(parts[0], e.N)
	case api.ExprRoot:
		return ratio.Root(parts[0])
	default:
		return operate(e.Kind, parts[0], parts[1])
	}
}

func operate(kind int, a, b api.Ratio) (api.Ratio, api.Errno) {
	switch kind {
	case api.ExprAdd:
		return ratio.Add(a, b)
	case api.ExprSub:
		return ratio.Sub(a, b)
	case api.ExprMul:
		return ratio.Mul(a, b)
	default: // api.ExprDiv
		return ratio.Div(a, b)
	}
}

// values evaluates expressions from left to right, up to the first that has an error.
func (v *evaluation) values(list []api.Expr, f frame) ([]api.Ratio, api.Errno) {
	var values []api.Ratio
	for _, e := range list {
		value, err := v.value(e, f)
		if err != api.OK {
			return nil, err
		}
		values = append(values, value)
	}
	return values, api.OK
}

// branch evaluates the branch of an if that its condition, the first two parts, leads to.
func (v *evaluation) branch(e api.Expr, f frame) (api.Ratio, api.Errno) {
	sides, err := v.values(e.Parts[:2], f)
	if err != api.OK {
		return api.Ratio{}, err
	}
	if ratio.Less(sides[0], sides[1]) {
		return v.value(e.Parts[2], f)
	}
	return v.value(e.Parts[3], f)
}
