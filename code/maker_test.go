package code_test

import (
	"fmt"
	"maps"
	"math/rand"
	"slices"
	"strconv"
	"strings"

	"tinplate/api"
	"tinplate/lang"
)

// need is the value of a call that must succeed.
func need[T any](value T, err api.Errno) T {
	if err != api.OK {
		panic(err)
	}
	return value
}

// parsed is the source of lines that must have one.
func parsed(text string) api.Source {
	s, line, err := lang.Parse(text)
	if err != api.OK {
		panic(fmt.Sprint(line, err, text))
	}
	return s
}

func names() []string {
	return []string{"push", "load", "add", "sub", "mul", "div", "pow", "root", "less", "jump", "call", "end"}
}

// asm makes instructions of words: of each its name, its number if it needs one, and the exponents of its units.
func asm(text string) []api.Op {
	var ops []api.Op
	missing := false // whether the number is
	for _, word := range strings.Fields(text) {
		what := slices.Index(names(), word)
		if what >= 0 {
			ops = append(ops, api.Op{What: what})
			missing = slices.Contains([]string{"push", "load", "pow", "less", "jump", "call"}, word)
			continue
		}
		n, err := strconv.Atoi(word)
		if err != nil {
			panic(word)
		}
		op := &ops[len(ops)-1]
		if missing {
			op.N = n
		} else {
			op.Units = append(op.Units, n)
		}
		missing = false
	}
	return ops
}

// proc makes a procedure of words.
func proc(params int, text string) api.Proc { return api.Proc{Params: params, Ops: asm(text)} }

// plain makes code without units.
func plain(procs ...api.Proc) api.Code { return api.Code{Procs: procs} }

// shown is code in words.
func shown(c api.Code) string {
	var b strings.Builder
	fmt.Fprint(&b, c.Units, " units")
	for i, p := range c.Procs {
		fmt.Fprint(&b, "\n", i, " (", p.Params, "):")
		for _, op := range p.Ops {
			name := strconv.Itoa(op.What)
			if op.What >= 0 && op.What < 12 {
				name = names()[op.What]
			}
			fmt.Fprint(&b, " ", name, " ", op.N, op.Units)
		}
	}
	return b.String()
}

// fractions makes ratios of words like 3/4.
func fractions(words string) []api.Ratio {
	var list []api.Ratio
	for _, word := range strings.Fields(words) {
		num, den, ok := strings.Cut(word, "/")
		r := api.Ratio{Den: 1}
		r.Num, _ = strconv.Atoi(num)
		if ok {
			r.Den, _ = strconv.Atoi(den)
		}
		list = append(list, r)
	}
	return list
}

func ones(n int) []api.Ratio { return slices.Repeat([]api.Ratio{{Num: 1, Den: 1}}, n) }

func pick[T any](r *rand.Rand, list ...T) T { return list[r.Intn(len(list))] }

// A maker makes sources and code.
type maker struct {
	*rand.Rand
	params []string // of the definition that it makes
	arity  []int    // of those before
	units  int

	code  api.Code
	ops   []api.Op
	depth int // of the stack, -1 where nothing leads to
	open  map[int]int
	rich  bool // whether there may be units, roots, free zeros and calls
	heavy bool // whether there are large powers
}

func newMaker(seed int64) *maker { return &maker{Rand: rand.New(rand.NewSource(seed))} }

// source makes a source of so many units and definitions, with expressions of that depth.
func (m *maker) source(units, defs, depth int) api.Source {
	for {
		m.units, m.arity = units, nil
		lines := []string{"unit m", "unit s", "unit kg", "unit k2"}[:units]
		for i := range defs {
			m.params = []string{"x", "y", "m"}[:m.Intn(4)]
			head := "let f" + strconv.Itoa(i)
			if len(m.params) > 0 {
				head += "(" + strings.Join(m.params, ", ") + ")"
			}
			lines = append(lines, head+" = "+m.expr(depth))
			m.arity = append(m.arity, len(m.params))
		}
		if text := strings.Join(lines, "\n"); len(text) <= api.MaxText {
			return parsed(text)
		}
	}
}

// several makes sources of all sizes.
func several(seed int64, count int) []api.Source {
	m := newMaker(seed)
	var list []api.Source
	for range count {
		list = append(list, m.source(m.Intn(5), 1+m.Intn(4), m.Intn(4)))
	}
	return list
}

func (m *maker) expr(depth int) string {
	if depth == 0 {
		return m.leaf()
	}
	part := func() string { return m.expr(m.Intn(depth)) }
	switch m.Intn(12) {
	case 0, 1:
		return m.leaf()
	case 2, 3:
		return m.invocation(part)
	case 4:
		return "(" + part() + ")^" + strconv.Itoa(m.Intn(7)-3)
	case 5:
		return "root(" + part() + ")"
	case 6, 7:
		return "(if " + part() + " < " + part() + " then " + part() + " else " + part() + ")"
	}
	return "(" + part() + pick(m.Rand, " + ", " - ", " * ", " / ") + part() + ")"
}

func (m *maker) leaf() string {
	if len(m.params) > 0 && m.Intn(3) > 0 {
		return pick(m.Rand, m.params...)
	}
	text := strconv.Itoa(pick(m.Rand, 0, 0, 1, 2, 4, 9, m.Intn(100), 9999999))
	var units []string
	for m.units > 0 && m.Intn(2) == 0 {
		units = append(units, pick(m.Rand, []string{"m", "s", "kg", "k2"}[:m.units]...)+"^"+strconv.Itoa(m.Intn(7)-3))
	}
	if len(units) > 0 {
		text += "[" + strings.Join(units, " ") + "]"
	}
	return text
}

func (m *maker) invocation(part func() string) string {
	if len(m.arity) == 0 {
		return part()
	}
	i := m.Intn(len(m.arity))
	var args []string
	for range m.arity[i] {
		args = append(args, part())
	}
	name := "f" + strconv.Itoa(i)
	if len(args) == 0 {
		return name
	}
	return name + "(" + strings.Join(args, ", ") + ")"
}

// program makes well-formed code. Its procedures have about as many instructions as length says; it has jumps from
// anywhere to anywhere.
func (m *maker) program(units, procs, length int) api.Code {
	m.code = api.Code{Units: units}
	for range procs {
		m.ops, m.depth, m.open = nil, 0, map[int]int{}
		params := m.Intn(4)
		for m.depth >= 0 {
			m.step(params, len(m.ops) >= length)
		}
		m.code.Procs = append(m.code.Procs, api.Proc{Params: params, Ops: m.ops})
	}
	return m.code
}

// step appends an instruction, or closes jumps; it comes to an end if it should.
func (m *maker) step(params int, ending bool) {
	for _, at := range m.jumps() {
		if m.open[at] == m.depth && (ending || m.Intn(6) == 0) {
			m.close(at)
		}
	}
	switch kind := m.Intn(15); {
	case m.depth == 1 && (ending || kind == 0):
		m.put(api.CodeEnd, 0, 1, 0)
		m.resume()
	case m.depth > 1 && kind < 3 && !ending:
		m.put(api.CodeLess, 0, 2, 0)
		m.open[len(m.ops)-1] = m.depth
	case kind == 3 && !ending:
		m.put(api.CodeJump, 0, 0, 0)
		m.open[len(m.ops)-1] = m.depth
		m.resume()
	case m.depth > 1 && (ending || kind < 8 || m.depth > 4):
		m.put(pick(m.Rand, api.CodeAdd, api.CodeSub, api.CodeMul, api.CodeDiv), 0, 2, 1)
	case m.depth > 0 && m.heavy && kind < 11:
		m.put(api.CodePow, pick(m.Rand, 3, -3, 2), 1, 1)
	case m.depth > 0 && kind == 8:
		m.put(api.CodePow, m.Intn(7)-3, 1, 1)
	case m.depth > 0 && kind == 9 && m.rich:
		m.put(api.CodeRoot, 0, 1, 1)
	case kind < 12 && m.rich && len(m.code.Procs) > 0:
		i := m.Intn(len(m.code.Procs))
		if n := m.code.Procs[i].Params; n <= m.depth {
			m.put(api.CodeCall, i, n, 1)
		}
	case params > 0 && m.Intn(4) > 0:
		m.put(api.CodeLoad, m.Intn(params), 0, 1)
	default:
		m.push()
	}
}

func (m *maker) put(what, n, needs, leaves int) {
	m.ops = append(m.ops, api.Op{What: what, N: n})
	m.depth += leaves - needs
}

func (m *maker) push() {
	m.put(api.CodePush, pick(m.Rand, 0, 1, 2, 4, m.Intn(100), 9999999), 0, 1)
	op := &m.ops[len(m.ops)-1]
	if !m.rich {
		op.N++
	}
	for range m.code.Units {
		op.Units = append(op.Units, pick(m.Rand, 0, 0, 0, 1, 2, -2, m.Intn(7)-3))
	}
	op.N = min(op.N, 9999999)
}

// close makes a jump lead to the instruction that comes next.
func (m *maker) close(at int) {
	m.ops[at].N = len(m.ops) - at - 1
	m.depth = m.open[at]
	delete(m.open, at)
}

// resume goes on where an open jump leads to, if there is any.
func (m *maker) resume() {
	m.depth = -1
	if list := m.jumps(); len(list) > 0 {
		m.close(pick(m.Rand, list...))
	}
}

// jumps are the indices of the open jumps.
func (m *maker) jumps() []int { return slices.Sorted(maps.Keys(m.open)) }

// programs makes well-formed code of all sizes.
func (m *maker) programs(count int) []api.Code {
	var list []api.Code
	for range count {
		units := 0
		if m.rich {
			units = m.Intn(5)
		}
		c := m.program(units, 1+m.Intn(3), 1+m.Intn(20))
		if !slices.ContainsFunc(c.Procs, func(p api.Proc) bool { return len(p.Ops) > api.MaxOps }) {
			list = append(list, c)
		}
	}
	return list
}

// anyCode makes well-formed code of all kinds.
func anyCode(seed int64, count int) []api.Code {
	var list []api.Code
	for _, rich := range []bool{false, true} {
		for _, heavy := range []bool{false, true} {
			m := newMaker(seed)
			m.rich, m.heavy = rich, heavy
			list = append(list, m.programs(count)...)
		}
	}
	return list
}

// copied is code that shares no memory with c.
func copied(c api.Code) api.Code {
	d := api.Code{Units: c.Units}
	for _, p := range c.Procs {
		q := api.Proc{Params: p.Params}
		for _, op := range p.Ops {
			q.Ops = append(q.Ops, api.Op{What: op.What, N: op.N, Units: slices.Clone(op.Units)})
		}
		d.Procs = append(d.Procs, q)
	}
	return d
}
