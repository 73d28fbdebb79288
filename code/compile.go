package code

import (
	"slices"

	"tinplate/api"
	"tinplate/dims"
)

// A compiler compiles the body of a definition of a valid source.
type compiler struct {
	source api.Source
	params []string
}

// compiled returns the procedure of a definition: false if it does not fit.
func compiled(s api.Source, def api.Def) (api.Proc, bool) {
	c := compiler{source: s, params: def.Params}
	ops := append(c.expr(def.Body), api.Op{What: api.CodeEnd})
	tooLarge := func(op api.Op) bool { return !areEntries(op.Units) }
	fits := len(ops) <= api.MaxOps && !slices.ContainsFunc(ops, tooLarge)
	return api.Proc{Params: len(def.Params), Ops: ops}, fits
}

func (c compiler) expr(e api.Expr) []api.Op {
	if e.Kind == api.ExprIf {
		return c.branch(e.Parts)
	}
	return append(c.exprs(e.Parts), c.last(e))
}

// exprs returns the code of expressions one after the other.
func (c compiler) exprs(list []api.Expr) []api.Op {
	var ops []api.Op
	for _, e := range list {
		ops = append(ops, c.expr(e)...)
	}
	return ops
}

// branch returns the code of an if of these parts.
func (c compiler) branch(parts []api.Expr) []api.Op {
	yes, no := c.expr(parts[2]), c.expr(parts[3])
	// When the condition does not hold, the jump that ends the first branch is skipped, too.
	less := api.Op{What: api.CodeLess, N: len(yes) + 1}
	jump := api.Op{What: api.CodeJump, N: len(no)}
	return slices.Concat(c.exprs(parts[:2]), []api.Op{less}, yes, []api.Op{jump}, no)
}

// last returns the instruction with which the code of an expression ends, behind that of its parts.
func (c compiler) last(e api.Expr) api.Op {
	switch e.Kind {
	case api.ExprNum:
		return api.Op{What: api.CodePush, N: e.N, Units: dims.Exponents(c.source.Units, e.Units)}
	case api.ExprVar:
		return api.Op{What: api.CodeLoad, N: slices.Index(c.params, e.Name)}
	case api.ExprCall:
		named := func(d api.Def) bool { return d.Name == e.Name }
		return api.Op{What: api.CodeCall, N: slices.IndexFunc(c.source.Defs, named)}
	case api.ExprAdd:
		return api.Op{What: api.CodeAdd}
	case api.ExprSub:
		return api.Op{What: api.CodeSub}
	case api.ExprMul:
		return api.Op{What: api.CodeMul}
	case api.ExprDiv:
		return api.Op{What: api.CodeDiv}
	case api.ExprPow:
		return api.Op{What: api.CodePow, N: e.N}
	default: // api.ExprRoot
		return api.Op{What: api.CodeRoot}
	}
}
