package lang_test

import (
	"math/rand"
	"slices"
	"strconv"
	"strings"

	"tinplate/api"
	"tinplate/lang"
)

// need is the value of a call that must succeed.
func need[T any](value T, err api.Errno) T {
	if err != api.OK {
		panic(err)
	}
	return value
}

// parsed is the source of lines that must have one.
func parsed(lines ...string) api.Source {
	s, line, err := lang.Parse(strings.Join(lines, "\n"))
	if err != api.OK || line != 0 {
		panic(strings.Join(lines, "\n"))
	}
	return s
}

// A maker makes sources, of so many units and definitions, with expressions of that depth.
type maker struct {
	*rand.Rand
	units, defs, depth int
	s                  api.Source
	params             []string
}

func pick[T any](r *rand.Rand, list ...T) T { return list[r.Intn(len(list))] }

func (m *maker) source() api.Source {
	m.s = api.Source{}
	for _, name := range []string{"m", "s", "kg", "k2"}[:m.units] {
		m.s.Units = append(m.s.Units, name)
	}
	for i := range m.defs {
		m.params = []string{"x", "y", "m"}[:m.Intn(4)]
		def := api.Def{Name: "f" + strconv.Itoa(i), Params: append([]string(nil), m.params...)}
		def.Body = m.expr(m.depth)
		m.s.Defs = append(m.s.Defs, def)
	}
	return m.s
}

func (m *maker) expr(depth int) api.Expr {
	if depth == 0 {
		return m.leaf()
	}
	kind := pick(m.Rand, 1, 1, 0, 2, 2, 3, 3, 4, 5, 5, 6, 7, 8, 9)
	switch kind {
	case 0, 1:
		return m.leaf()
	case 2:
		return m.call(depth)
	case 7:
		return api.Expr{Kind: 7, N: m.Intn(7) - 3, Parts: m.exprs(1, depth-1)}
	}
	counts := map[int]int{3: 2, 4: 2, 5: 2, 6: 2, 8: 1, 9: 4}
	return api.Expr{Kind: kind, Parts: m.exprs(counts[kind], depth-1)}
}

func (m *maker) exprs(n, depth int) []api.Expr {
	var list []api.Expr
	for range n {
		list = append(list, m.expr(depth))
	}
	return list
}

func (m *maker) leaf() api.Expr {
	if len(m.params) > 0 && m.Intn(3) > 0 {
		return api.Expr{Kind: 1, Name: pick(m.Rand, m.params...)}
	}
	e := api.Expr{N: pick(m.Rand, 0, 0, 1, 2, 4, 9, m.Intn(100), 9999999)}
	for len(m.s.Units) > 0 && m.Intn(2) == 0 {
		e.Units = append(e.Units, api.Unit{Name: pick(m.Rand, m.s.Units...), Exp: m.Intn(7) - 3})
	}
	return e
}

func (m *maker) call(depth int) api.Expr {
	if len(m.s.Defs) == 0 {
		return m.leaf()
	}
	d := pick(m.Rand, m.s.Defs...)
	return api.Expr{Kind: 2, Name: d.Name, Parts: m.exprs(len(d.Params), depth-1)}
}

// several makes sources of all sizes.
func several(seed int64, count int) []api.Source {
	m := maker{Rand: rand.New(rand.NewSource(seed))}
	var list []api.Source
	for range count {
		m.units, m.defs, m.depth = m.Intn(5), 1+m.Intn(4), m.Intn(4)
		list = append(list, m.source())
	}
	return list
}

// typed makes sources that have types.
func typed(seed int64, count int) []api.Source {
	m := maker{Rand: rand.New(rand.NewSource(seed))}
	var list []api.Source
	for len(list) < count {
		m.units, m.defs, m.depth = m.Intn(5), 1+m.Intn(4), 1+m.Intn(3)
		s := m.source()
		if _, _, err := refInfer(s); err == api.OK {
			list = append(list, s)
		}
	}
	return list
}

// write writes the tokens of an expression, where a kind of at least that level may stand, with parentheses that are
// needed and others, if more is above 0.
func write(r *rand.Rand, e api.Expr, level, more int) []string {
	levels := []int{4, 4, 4, 1, 1, 2, 2, 3, 4, 0}
	var tokens []string
	part := func(i, level int) { tokens = append(tokens, write(r, e.Parts[i], level, more)...) }
	put := func(list ...string) { tokens = append(tokens, list...) }
	switch e.Kind {
	case 0:
		put(strconv.Itoa(e.N))
		put(writeUnits(r, e.Units, more)...)
	case 1:
		put(e.Name)
	case 2, 8:
		put(map[int]string{2: e.Name, 8: "root"}[e.Kind])
		for i := range e.Parts {
			put(map[bool]string{true: "(", false: ","}[i == 0])
			part(i, 0)
		}
		if len(e.Parts) > 0 {
			put(")")
		}
	case 7:
		part(0, 4)
		put(exponent(e.N)...)
	case 9:
		for i, word := range []string{"if", "<", "then", "else"} {
			put(word)
			part(i, []int{1, 1, 0, 0}[i])
		}
	default:
		part(0, levels[e.Kind])
		put([]string{"+", "-", "*", "/"}[e.Kind-3])
		part(1, levels[e.Kind]+1)
	}
	for levels[e.Kind] < level || more > 0 && r.Intn(4) == 0 {
		tokens = slices.Concat([]string{"("}, tokens, []string{")"})
		level = 0
	}
	return tokens
}

func writeUnits(r *rand.Rand, units []api.Unit, more int) []string {
	if len(units) == 0 {
		return nil
	}
	tokens := []string{"["}
	for _, u := range units {
		tokens = append(tokens, u.Name)
		if u.Exp != 1 || more > 0 && r.Intn(2) == 0 {
			tokens = append(tokens, exponent(u.Exp)...)
		}
	}
	return append(tokens, "]")
}

func exponent(n int) []string {
	if n < 0 {
		return []string{"^", "-", strconv.Itoa(-n)}
	}
	return []string{"^", strconv.Itoa(n)}
}

// header is the tokens of a definition up to its body.
func header(d api.Def) []string {
	tokens := []string{"let", d.Name}
	for i, p := range d.Params {
		tokens = append(tokens, map[bool]string{true: "(", false: ","}[i == 0], p)
	}
	if len(d.Params) > 0 {
		tokens = append(tokens, ")")
	}
	return append(tokens, "=")
}

// scattered is a line with any blanks between tokens.
func scattered(r *rand.Rand, tokens []string) string {
	var b strings.Builder
	blanks := func() { b.WriteString(strings.Repeat(" ", max(0, r.Intn(5)-2))) }
	for i, token := range tokens {
		blanks()
		if i > 0 && wordPattern.MatchString(tokens[i-1]) && wordPattern.MatchString(token) {
			b.WriteString(" ")
		}
		b.WriteString(token)
	}
	blanks()
	return b.String()
}

// anyText is a text of a source: with empty lines, units that are declared as late as may be, and any blanks.
func anyText(r *rand.Rand, s api.Source) string {
	var lines []string
	units := s.Units
	for _, d := range s.Defs {
		body := write(r, d.Body, 0, 1)
		named := func(unit string) bool { return slices.Contains(body, unit) }
		for len(units) > 0 && (slices.ContainsFunc(units, named) || r.Intn(3) == 0) {
			lines = append(lines, scattered(r, []string{"unit", units[0]}))
			units = units[1:]
		}
		lines = append(lines, scattered(r, append(header(d), body...)))
		for r.Intn(3) == 0 {
			lines = append(lines, strings.Repeat(" ", r.Intn(3)))
		}
	}
	for _, u := range units {
		lines = append(lines, scattered(r, []string{"unit", u}))
	}
	return strings.Join(lines, "\n")
}

// plainText is the text of a source as Print has it.
func plainText(s api.Source) string {
	var b strings.Builder
	for _, u := range s.Units {
		b.WriteString("unit " + u + "\n")
	}
	for _, d := range s.Defs {
		b.WriteString(spaced(append(header(d), write(nil, d.Body, 0, 0)...)) + "\n")
	}
	return b.String()
}
