package code_test

import (
	"math"
	"slices"
	"strings"
	"testing"

	"tinplate/api"
	"tinplate/code"
)

// P8.2: single procedures.
func TestForm(t *testing.T) {
	for _, c := range []struct {
		params int
		text   string
		want   api.Errno
	}{
		{0, "push 0 end", api.OK},
		{0, "push 9999999 end", api.OK},
		{0, "push 10000000 end", api.ErrForm},
		{0, "push -1 end", api.ErrForm},
		{0, "push 1 0 end", api.ErrForm},
		{1, "load 0 end", api.OK},
		{3, "load 2 end", api.OK},
		{3, "load 3 end", api.ErrForm},
		{0, "load 0 end", api.ErrForm},
		{3, "load -1 end", api.ErrForm},
		{1, "load 0 pow 3 end", api.OK},
		{1, "load 0 pow -3 end", api.OK},
		{1, "load 0 pow 4 end", api.ErrForm},
		{1, "load 0 pow -4 end", api.ErrForm},
		{1, "load 0 root end", api.OK},
		{1, "load 0 load 0 add end", api.OK},
		{1, "load 0 load 0 sub end", api.OK},
		{1, "load 0 load 0 mul end", api.OK},
		{1, "load 0 load 0 div end", api.OK},
		{1, "load 0 load 0 load 0 less 0 end", api.OK},
		{1, "load 0 load 0 load 0 less 1 end", api.ErrForm},
		{1, "load 0 load 0 load 0 less -1 end", api.ErrForm},
		{1, "load 0 jump 0 end", api.OK},
		{1, "load 0 jump 1 end", api.ErrForm},
		{1, "load 0 jump -1 end", api.ErrForm},
		{1, "load 0 jump -3 end", api.ErrForm},
		{0, "call 0 end", api.ErrForm},
		{0, "call -1 end", api.ErrForm},
		{1, "load 0 load 0 less 4 push 0 load 0 sub jump 1 load 0 end", api.OK},
		{1, "load 0 load 0 less 2 load 0 end load 0 end", api.OK},
		{1, "load 0 load 0 load 0 less 1 end end", api.OK},
		{0, "", api.ErrStack},
		{0, "end", api.ErrStack},
		{0, "push 1", api.ErrStack},
		{1, "add end", api.ErrStack},
		{1, "load 0 add end", api.ErrStack},
		{1, "load 0 sub end", api.ErrStack},
		{1, "load 0 mul end", api.ErrStack},
		{1, "load 0 div end", api.ErrStack},
		{1, "load 0 load 0 less 1 load 0 end", api.ErrStack},
		{1, "load 0 less 0 load 0 end", api.ErrStack},
		{1, "less 0 load 0 end", api.ErrStack},
		{1, "pow 2 load 0 end", api.ErrStack},
		{1, "root load 0 end", api.ErrStack},
		{1, "load 0 load 0 end", api.ErrStack},
		{1, "load 0 load 0 add", api.ErrStack},
		{1, "load 0 end end", api.ErrStack},
		{1, "load 0 end load 0 end", api.ErrStack},
		{1, "load 0 jump 1 load 0 end", api.ErrStack},
		{1, "load 0 jump 0", api.ErrForm},
		{1, "load 0 end jump 0", api.ErrForm},
		{1, "load 0 jump 1 jump 0 end", api.ErrStack},
		{1, "load 0 load 0 less 1 load 0 load 0 end", api.ErrStack},
		{1, "load 0 load 0 load 0 less 1 pow 2 end", api.OK},
		{1, "load 0 load 0 load 0 less 1 load 0 end", api.ErrStack},
		{1, "load 0 load 0 load 0 less 3 load 0 jump 1 pow 2 end", api.ErrStack},
		{1, "load 0 load 0 load 0 less 2 pow 3 jump 1 pow 2 end", api.OK},
		{1, "load 0 load 0 load 0 less 1 end", api.ErrForm},
		{1, "load 0 load 0 less 1 jump 1 load 0 end", api.ErrStack},
		{1, strings.Repeat("load 0 ", 40) + strings.Repeat("add ", 39) + "end", api.OK},
		{1, strings.Repeat("load 0 ", 41) + strings.Repeat("add ", 40) + "end", api.ErrStack},
		{1, strings.Repeat("load 0 ", 41) + strings.Repeat("add ", 40) + "pow 4 end", api.ErrForm},
		{1, strings.Repeat("load 0 ", 40) + strings.Repeat("root ", 120) + strings.Repeat("add ", 39) + "end", api.OK},
		{1, strings.Repeat("load 0 ", 40) + strings.Repeat("root ", 121) + strings.Repeat("add ", 39) + "end", api.ErrLimit},
		{1, strings.Repeat("add ", 200), api.ErrStack},
		{1, strings.Repeat("add ", 201), api.ErrLimit},
		{1, strings.Repeat("pow 4 ", 201), api.ErrLimit},
		{4, "load 0 end", api.ErrArg},
		{-1, "push 0 end", api.ErrArg},
		{4, strings.Repeat("add ", 201), api.ErrArg},
		{math.MaxInt, "push 0 end", api.ErrArg},
		{math.MinInt, "push 0 end", api.ErrArg},
	} {
		p := proc(c.params, c.text)
		if i, err := code.Form(plain(p)); i != 0 || err != c.want {
			t.Error(c, i, err)
		}
		if c.want == api.ErrArg {
			continue
		}
		if i, err := refForm(plain(p)); i != 0 || err != c.want {
			t.Error(c, i, err)
		}
	}
}

// P8.2: the first procedure with an error, and code as a whole.
func TestFormOfSeveral(t *testing.T) {
	good, stack := proc(1, "load 0 end"), proc(1, "load 0")
	form, long, arg := proc(1, "end load 1"), proc(1, strings.Repeat("load 1 ", 201)), proc(4, "end end")
	for _, c := range []struct {
		code api.Code
		i    int
		want api.Errno
	}{
		{api.Code{}, 0, api.OK},
		{api.Code{Units: 4}, 0, api.OK},
		{api.Code{Units: 5}, 0, api.ErrArg},
		{api.Code{Units: -1}, 0, api.ErrArg},
		{api.Code{Units: 5, Procs: slices.Repeat([]api.Proc{arg}, 13)}, 0, api.ErrArg},
		{api.Code{Units: 4, Procs: slices.Repeat([]api.Proc{good}, 12)}, 0, api.OK},
		{api.Code{Units: 4, Procs: slices.Repeat([]api.Proc{good}, 13)}, 0, api.ErrLimit},
		{api.Code{Procs: slices.Repeat([]api.Proc{arg}, 13)}, 0, api.ErrLimit},
		{plain(good, stack, form), 1, api.ErrStack},
		{plain(good, good, form, stack), 2, api.ErrForm},
		{plain(good, long, arg, form), 1, api.ErrLimit},
		{plain(good, good, good, arg, stack), 3, api.ErrArg},
		{plain(good, proc(2, "load 1 call 0 end")), 0, api.OK},
		{plain(good, proc(2, "call 0 end")), 1, api.ErrStack},
		{plain(good, proc(2, "load 0 load 0 call 0 end")), 1, api.ErrStack},
		{plain(good, proc(2, "load 0 call 1 end")), 1, api.ErrForm},
		{plain(good, proc(2, "load 0 call 2 end"), good), 1, api.ErrForm},
		{plain(good, proc(2, "load 0 call -1 end"), good), 1, api.ErrForm},
		{plain(proc(0, "push 1 end"), proc(0, "call 0 end"), proc(0, "call 0 call 1 add end")), 0, api.OK},
		{plain(proc(3, "push 1 end"), proc(0, "push 1 push 1 push 1 call 0 end")), 0, api.OK},
		{plain(proc(3, "push 1 end"), proc(0, "push 1 push 1 call 0 end")), 1, api.ErrStack},
		{plain(proc(0, "push 1 end"), proc(0, strings.Repeat("call 0 ", 40)+strings.Repeat("add ", 39)+"end")), 0, api.OK},
		{plain(proc(0, "push 1 end"), proc(0, strings.Repeat("call 0 ", 41)+strings.Repeat("add ", 40)+"end")), 1, api.ErrStack},
		{plain(proc(2, "load 1 end"), proc(0, strings.Repeat("push 1 ", 40)+strings.Repeat("call 0 ", 39)+"end")), 0, api.OK},
		{api.Code{Units: 2, Procs: []api.Proc{proc(0, "push 1 30 -30 end")}}, 0, api.OK},
		{api.Code{Units: 2, Procs: []api.Proc{proc(0, "push 1 31 -30 end")}}, 0, api.ErrForm},
		{api.Code{Units: 2, Procs: []api.Proc{proc(0, "push 1 30 -31 end")}}, 0, api.ErrForm},
		{api.Code{Units: 2, Procs: []api.Proc{proc(0, "push 1 30 end")}}, 0, api.ErrForm},
		{api.Code{Units: 2, Procs: []api.Proc{proc(0, "push 1 30 30 30 end")}}, 0, api.ErrForm},
		{api.Code{Units: 2, Procs: []api.Proc{proc(0, "push 1 end")}}, 0, api.ErrForm},
	} {
		if i, err := code.Form(c.code); i != c.i || err != c.want {
			t.Error(shown(c.code), i, err)
		}
	}
}

// P8.2: the fields that an instruction does not use may have any value.
func TestFormIgnoresRest(t *testing.T) {
	c := plain(proc(1, "load 0 end"), proc(1, "load 0 load 0 add load 0 sub load 0 mul load 0 div root pow 2 load 0 less 0 load 0 call 0 jump 0 end"))
	for _, p := range c.Procs {
		for i := range p.Ops {
			op := &p.Ops[i]
			if slices.Contains([]int{2, 3, 4, 5, 7, 11}, op.What) {
				op.N = []int{math.MinInt, math.MaxInt, -1}[i%3]
			}
			op.Units = []int{math.MinInt, 31, 0, 0, 0}
		}
	}
	if i, err := code.Form(c); i != 0 || err != api.OK {
		t.Error(i, err)
	}
}

// P8.2, P1: numbers of any size.
func TestFormExtremes(t *testing.T) {
	for _, n := range []int{math.MinInt, math.MinInt + 1, -1 << 40, -31, 12, 1 << 40, math.MaxInt - 1, math.MaxInt} {
		if i, err := code.Form(api.Code{Units: n}); i != 0 || err != api.ErrArg {
			t.Error(n, i, err)
		}
		if i, err := code.Form(plain(api.Proc{Ops: []api.Op{{What: n}}})); i != 0 || err != api.ErrForm {
			t.Error(n, i, err)
		}
		for what := range 12 {
			if slices.Contains([]int{1, 6, 8, 9, 10}, what) || n < 0 && what == 0 {
				c := plain(proc(1, "load 0 end"), proc(1, "load 0 end"), proc(1, "load 0 load 0"))
				c.Procs[2].Ops = append(c.Procs[2].Ops, api.Op{What: what, N: n}, api.Op{What: api.CodeEnd})
				if i, err := code.Form(c); i != 2 || err != api.ErrForm {
					t.Error(n, what, i, err)
				}
			}
		}
		c := api.Code{Units: 1, Procs: []api.Proc{{Ops: []api.Op{{N: 1, Units: []int{n}}, {What: api.CodeEnd}}}}}
		if i, err := code.Form(c); i != 0 || (err != api.ErrForm) != (n == 12) {
			t.Error(n, i, err)
		}
	}
}

// mutated is code in which something is another.
func (m *maker) mutated(c api.Code) api.Code {
	c = copied(c)
	p := &c.Procs[m.Intn(len(c.Procs))]
	if len(p.Ops) == 0 {
		return c
	}
	i := m.Intn(len(p.Ops))
	switch m.Intn(10) {
	case 0:
		p.Params = m.Intn(6) - 1
	case 1:
		p.Ops = slices.Delete(p.Ops, i, i+1)
	case 2:
		p.Ops = slices.Insert(p.Ops, i, p.Ops[m.Intn(len(p.Ops))])
	case 3:
		p.Ops[i], p.Ops[0] = p.Ops[0], p.Ops[i]
	case 4:
		p.Ops = p.Ops[:i]
	case 5:
		p.Ops[i].What = m.Intn(14) - 1
	case 6:
		if units := p.Ops[i].Units; len(units) > 0 {
			units[m.Intn(len(units))] = pick(m.Rand, 30, 31, -30, -31)
		}
	default:
		if what := p.Ops[i].What; m.Intn(4) > 0 && (what == api.CodeLess || what == api.CodeJump) {
			p.Ops[i].N += m.Intn(5) - 2
		} else {
			p.Ops[i].N = m.Intn(8) - 3
		}
	}
	return c
}

// P8.2: the same as by following all ways; and P8.3, P8.4: Verify and Run refuse what Form does.
func TestFormAgainstWays(t *testing.T) {
	m := newMaker(11)
	found := map[api.Errno]int{}
	for _, c := range anyCode(11, 4000) {
		if i, err := code.Form(c); i != 0 || err != api.OK {
			t.Fatal(shown(c), i, err)
		}
		for range 4 {
			c = m.mutated(c)
			i, err := code.Form(c)
			if j, e := refForm(c); i != j || err != e {
				t.Fatal(shown(c), i, err, j, e)
			}
			found[err]++
			if err == api.OK {
				continue
			}
			if types, j, e := code.Verify(c); len(types) > 0 || i != j || err != e {
				t.Fatal(shown(c), types, i, err, j, e)
			}
			if v, n, e := code.Run(c, 0, nil, nil, 10); v != (api.Ratio{}) || n != 0 || e != api.ErrForm {
				t.Fatal(shown(c), v, n, e)
			}
		}
	}
	for _, err := range []api.Errno{api.OK, api.ErrArg, api.ErrForm, api.ErrStack} {
		if found[err] < 1000 {
			t.Error(found)
		}
	}
}

// P8.2: all short procedures of a few instructions.
func TestFormOfAllShort(t *testing.T) {
	list := asm("load 0 add pow 2 less 0 less 1 jump 0 jump 1 end")
	found := map[api.Errno]int{}
	var extend func(ops []api.Op)
	extend = func(ops []api.Op) {
		c := plain(api.Proc{Params: 1, Ops: ops})
		i, err := code.Form(c)
		if j, e := refForm(c); i != j || err != e {
			t.Fatal(shown(c), i, err, j, e)
		}
		found[err]++
		if len(ops) < 6 {
			for _, op := range list {
				extend(append(slices.Clone(ops), op))
			}
		}
	}
	extend(nil)
	if found[api.OK] < 50 {
		t.Error(found)
	}
}
