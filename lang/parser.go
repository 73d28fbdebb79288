package lang

import (
	"slices"

	"tinplate/api"
)

const maxParams = 3

// A parser parses a line. It knows the parameters of the line's definition as soon as it has read them.
type parser struct {
	lexer
	params []string
}

// addLine adds to a source what a line declares.
func addLine(s *api.Source, line string) api.Errno {
	p := parser{lexer: lexer{rest: line}}
	p.advance()
	switch {
	case p.ended():
		return api.OK
	case p.accept("unit"):
		name := p.name()
		if !p.ended() {
			return api.ErrForm
		}
		return addUnit(s, name)
	case p.accept("let"):
		def := p.definition()
		if !p.ended() || len(def.Params) > maxParams || nesting(def.Body) > api.MaxNest {
			return api.ErrForm
		}
		return addDef(s, def)
	}
	return api.ErrForm
}

func (p *parser) definition() api.Def {
	def := api.Def{Name: p.name()}
	if p.accept("(") {
		def.Params = listed(p, p.name)
		p.params = def.Params
	}
	p.expect("=")
	def.Body = p.expr()
	return def
}

// listed reads what is separated by commas, after a parenthesis and up to the one that closes it.
func listed[T any](p *parser, read func() T) []T {
	list := []T{read()}
	for p.accept(",") {
		list = append(list, read())
	}
	p.expect(")")
	return list
}

func (p *parser) expr() api.Expr {
	if !p.accept("if") {
		return p.sum()
	}
	left := p.sum()
	p.expect("<")
	right := p.sum()
	p.expect("then")
	yes := p.expr()
	p.expect("else")
	no := p.expr()
	return api.Expr{Kind: api.ExprIf, Parts: []api.Expr{left, right, yes, no}}
}

func (p *parser) sum() api.Expr { return p.chain(levelSum, p.term) }

func (p *parser) term() api.Expr { return p.chain(levelTerm, p.power) }

// chain reads parts with signs of a level between them. Each of these makes one expression of all that stands before it
// and the part after it.
func (p *parser) chain(level int, part func() api.Expr) api.Expr {
	left := part()
	for {
		kind, ok := signed(level, p.token)
		if !ok {
			return left
		}
		p.advance()
		right := part()
		left = api.Expr{Kind: kind, Parts: []api.Expr{left, right}}
	}
}

func (p *parser) power() api.Expr {
	atom := p.atom()
	if p.token != "^" {
		return atom
	}
	return api.Expr{Kind: api.ExprPow, N: p.exponent(), Parts: []api.Expr{atom}}
}

func (p *parser) atom() api.Expr {
	switch {
	case p.accept("("):
		inner := p.expr()
		p.expect(")")
		return inner
	case p.accept("root"):
		p.expect("(")
		inner := p.expr()
		p.expect(")")
		return api.Expr{Kind: api.ExprRoot, Parts: []api.Expr{inner}}
	case isNumber(p.token):
		n := p.number()
		return api.Expr{Kind: api.ExprNum, N: n, Units: p.units()}
	}
	name := p.name()
	if p.accept("(") {
		return api.Expr{Kind: api.ExprCall, Name: name, Parts: listed(p, p.expr)}
	}
	if slices.Contains(p.params, name) {
		return api.Expr{Kind: api.ExprVar, Name: name}
	}
	return api.Expr{Kind: api.ExprCall, Name: name}
}

// units reads the units of a number, if it has any.
func (p *parser) units() []api.Unit {
	if !p.accept("[") {
		return nil
	}
	var list []api.Unit
	for !p.failed && (len(list) == 0 || p.token != "]") {
		name := p.name()
		list = append(list, api.Unit{Name: name, Exp: p.exponent()})
	}
	p.expect("]")
	return list
}

// nesting returns how deep an expression is nested.
func nesting(e api.Expr) int {
	deepest := 0
	for _, part := range e.Parts {
		deepest = max(deepest, nesting(part))
	}
	return 1 + deepest
}
