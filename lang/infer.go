package lang

import (
	"slices"

	"tinplate/api"
	"tinplate/dims"
)

// An inference goes through the body of a definition, and puts what its dimensions must satisfy into a system.
type inference struct {
	*dims.System
	source api.Source
	types  []api.Scheme // of the definitions before
	params []string
}

// typeOf returns the type of the definition after those whose types are known.
func typeOf(s api.Source, types []api.Scheme, def api.Def) (api.Scheme, api.Errno) {
	system := dims.New(len(def.Params), len(s.Units))
	i := inference{System: system, source: s, types: types, params: def.Params}
	return system.Type(i.form(def.Body))
}

func (i *inference) form(e api.Expr) dims.Form {
	var parts []dims.Form
	for _, part := range e.Parts {
		parts = append(parts, i.form(part))
	}
	switch e.Kind {
	case api.ExprNum:
		return i.Number(e.N, dims.Exponents(i.source.Units, e.Units))
	case api.ExprVar:
		return i.Param(slices.Index(i.params, e.Name))
	case api.ExprCall:
		return i.Call(i.types[find(i.source.Defs, e.Name)], parts)
	case api.ExprAdd, api.ExprSub:
		i.Equate(parts[0], parts[1])
		return parts[0]
	case api.ExprMul:
		return i.Plus(parts[0], 1, parts[1])
	case api.ExprDiv:
		return i.Plus(parts[0], -1, parts[1])
	case api.ExprPow:
		return i.Plus(dims.Form{}, e.N, parts[0])
	case api.ExprRoot:
		return i.Root(parts[0])
	default: // api.ExprIf
		i.Equate(parts[0], parts[1])
		i.Equate(parts[2], parts[3])
		return parts[2]
	}
}
