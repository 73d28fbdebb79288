package lang

import (
	"slices"
	"strconv"

	"tinplate/api"
)

// textOf returns the text of a source: false if the source is not valid.
//
// It writes down any source as if it were valid. It is, if it is what the text says; otherwise the text is one of
// another source, or of none.
func textOf(s api.Source) (string, bool) {
	var p printer
	p.source(s)
	if p.failed {
		return "", false
	}
	text := string(p.text)
	said, _, err := Parse(text)
	if err != api.OK || !sameSource(s, said) {
		return "", false
	}
	return text, true
}

func valid(s api.Source) bool {
	_, ok := textOf(s)
	return ok
}

// A printer writes any source, also one of which it would not come to an end: it fails where the text is too long, or
// an expression is nested too deep or has too few parts.
type printer struct {
	text   []byte
	failed bool
}

func (p *printer) put(words ...string) {
	for _, word := range words {
		if len(p.text)+len(word) > api.MaxText {
			p.failed = true
			return
		}
		p.text = append(p.text, word...)
	}
}

func (p *printer) source(s api.Source) {
	for _, unit := range s.Units {
		p.put("unit ", unit, "\n")
	}
	for _, def := range s.Defs {
		if p.failed {
			return
		}
		p.def(def)
	}
}

func (p *printer) def(d api.Def) {
	p.put("let ", d.Name)
	before := "("
	for _, param := range d.Params {
		p.put(before, param)
		before = ", "
	}
	if len(d.Params) > 0 {
		p.put(")")
	}
	p.put(" = ")
	p.expr(d.Body, levelExpr, 1)
	p.put("\n")
}

// expr writes an expression, nested so deep, in a place of that level.
func (p *printer) expr(e api.Expr, level, nest int) {
	if nest > api.MaxNest || e.Kind < 0 || e.Kind >= len(kinds) || len(e.Parts) < kinds[e.Kind].parts {
		p.failed = true
	}
	if p.failed {
		return
	}
	if kinds[e.Kind].level >= level {
		p.bare(e, nest+1)
		return
	}
	p.put("(")
	p.bare(e, nest+1)
	p.put(")")
}

// bare writes an expression without parentheses around it. Its parts are nested as deep as nest says.
func (p *printer) bare(e api.Expr, nest int) {
	switch kind := kinds[e.Kind]; e.Kind {
	case api.ExprNum:
		p.put(strconv.Itoa(e.N))
		p.units(e.Units)
	case api.ExprVar:
		p.put(e.Name)
	case api.ExprCall:
		p.put(e.Name)
		if len(e.Parts) > 0 {
			p.arguments(e.Parts, nest)
		}
	case api.ExprRoot:
		p.put("root")
		p.arguments(e.Parts, nest)
	case api.ExprPow:
		p.expr(e.Parts[0], levelAtom, nest)
		p.put("^", strconv.Itoa(e.N))
	case api.ExprIf:
		p.put("if ")
		p.expr(e.Parts[0], levelSum, nest)
		p.put(" < ")
		p.expr(e.Parts[1], levelSum, nest)
		p.put(" then ")
		p.expr(e.Parts[2], levelExpr, nest)
		p.put(" else ")
		p.expr(e.Parts[3], levelExpr, nest)
	default:
		p.expr(e.Parts[0], kind.level, nest)
		p.put(" ", kind.sign, " ")
		p.expr(e.Parts[1], kind.level+1, nest)
	}
}

func (p *printer) units(list []api.Unit) {
	before := "["
	for _, unit := range list {
		p.put(before, unit.Name)
		if unit.Exp != 1 {
			p.put("^", strconv.Itoa(unit.Exp))
		}
		before = " "
	}
	if len(list) > 0 {
		p.put("]")
	}
}

func (p *printer) arguments(list []api.Expr, nest int) {
	before := "("
	for _, part := range list {
		p.put(before)
		p.expr(part, levelExpr, nest)
		before = ", "
	}
	p.put(")")
}

// sameSource, sameDef and sameExpr compare what may have empty lists or none.

func sameSource(a, b api.Source) bool {
	return slices.Equal(a.Units, b.Units) && slices.EqualFunc(a.Defs, b.Defs, sameDef)
}

func sameDef(a, b api.Def) bool {
	return a.Name == b.Name && slices.Equal(a.Params, b.Params) && sameExpr(a.Body, b.Body)
}

func sameExpr(a, b api.Expr) bool {
	return a.Kind == b.Kind && a.N == b.N && a.Name == b.Name && slices.Equal(a.Units, b.Units) &&
		slices.EqualFunc(a.Parts, b.Parts, sameExpr)
}
