package code_test

import (
	"fmt"
	"slices"
	"strings"
	"testing"

	"tinplate/api"
	"tinplate/code"
)

// P8.1
func TestCompile(t *testing.T) {
	for text, want := range map[string][]api.Proc{
		"":                                {},
		"let c = 5":                       {proc(0, "push 5 end")},
		"let c = 0":                       {proc(0, "push 0 end")},
		"let c = 9999999":                 {proc(0, "push 9999999 end")},
		"let f(x) = x":                    {proc(1, "load 0 end")},
		"let f(x, y, z) = z":              {proc(3, "load 2 end")},
		"let f(x, y) = x + y":             {proc(2, "load 0 load 1 add end")},
		"let f(x, y) = y - x":             {proc(2, "load 1 load 0 sub end")},
		"let f(x, y) = x * y":             {proc(2, "load 0 load 1 mul end")},
		"let f(x, y) = x / y":             {proc(2, "load 0 load 1 div end")},
		"let f(x) = x^3":                  {proc(1, "load 0 pow 3 end")},
		"let f(x) = x^-3":                 {proc(1, "load 0 pow -3 end")},
		"let f(x) = x^0":                  {proc(1, "load 0 pow 0 end")},
		"let f(x) = root(x)":              {proc(1, "load 0 root end")},
		"let f(x) = 1 - (2 - x) - 3":      {proc(1, "push 1 push 2 load 0 sub sub push 3 sub end")},
		"let f(x) = root(x * x + 1)^2":    {proc(1, "load 0 load 0 mul push 1 add root pow 2 end")},
		"let a = 1\nlet b = 2\nlet c = a": {proc(0, "push 1 end"), proc(0, "push 2 end"), proc(0, "call 0 end")},
		"let a = 1\nlet b = 2\nlet c = b": {proc(0, "push 1 end"), proc(0, "push 2 end"), proc(0, "call 1 end")},
		"let x = 1\nlet f(x) = x":         {proc(0, "push 1 end"), proc(1, "load 0 end")},
		"let x = 1\nlet f(y) = x":         {proc(0, "push 1 end"), proc(1, "call 0 end")},
		"let f(x, y, z) = x\nlet g(y) = f(y, 1 + y, f(1, 2, 3))": {
			proc(3, "load 0 end"), proc(1, "load 0 push 1 load 0 add push 1 push 2 push 3 call 0 call 0 end")},
		"let abs(x) = if x < 0 then 0 - x else x": {
			proc(1, "load 0 push 0 less 4 push 0 load 0 sub jump 1 load 0 end")},
		"let f(x) = 1 + (if x < 2 then 3 else x * x)": {
			proc(1, "push 1 load 0 push 2 less 2 push 3 jump 3 load 0 load 0 mul add end")},
		"let f(x) = if 1 < 2 then if 3 < 4 then 5 else 6 else if 7 < 8 then 9 else 10": {proc(1,
			"push 1 push 2 less 7 push 3 push 4 less 2 push 5 jump 1 push 6 jump 6 push 7 push 8 less 2 push 9 jump 1 push 10 end")},
		"let f(x) = if (if x < 1 then 2 else 3) < 4 then 5 else 6": {
			proc(1, "load 0 push 1 less 2 push 2 jump 1 push 3 push 4 less 2 push 5 jump 1 push 6 end")},
	} {
		c, err := code.Compile(parsed(text))
		if err != api.OK || !sameCode(c, plain(want...)) {
			t.Error(text, err, shown(c))
		}
	}
}

// P8.1: the exponents are those of all units of the source, each the sum of those of a number.
func TestCompileUnits(t *testing.T) {
	for text, want := range map[string]api.Code{
		"unit m\nlet c = 5": {Units: 1, Procs: []api.Proc{proc(0, "push 5 0 end")}},
		"unit m":            {Units: 1},
		"unit m\nunit s\nlet fall(t) = 5[m s^-2] * t^2": {Units: 2, Procs: []api.Proc{proc(1, "push 5 1 -2 load 0 pow 2 mul end")}},
		"unit m\nunit s\nlet c = 5[s m s^2 m^0 s^-1]":   {Units: 2, Procs: []api.Proc{proc(0, "push 5 1 2 end")}},
		"unit m\nlet c = 0[m m^-1] + 0[m]":              {Units: 1, Procs: []api.Proc{proc(0, "push 0 0 push 0 1 add end")}},
		"let c = 5\nunit m\nlet d = 6[m]":               {Units: 1, Procs: []api.Proc{proc(0, "push 5 0 end"), proc(0, "push 6 1 end")}},
		"unit a\nunit b\nunit c\nunit d\nlet e = 1[d]":  {Units: 4, Procs: []api.Proc{proc(0, "push 1 0 0 0 1 end")}},
	} {
		c, err := code.Compile(parsed(text))
		if err != api.OK || !sameCode(c, want) {
			t.Error(text, err, shown(c))
		}
	}
}

// P8.1: the fields that an instruction does not use are zero.
func TestCompileLeavesRestZero(t *testing.T) {
	c := need(code.Compile(parsed("unit m\nlet a(x) = root(x)\nlet b(x) = if x + 1[m] < a(2)^3 then x * 1 else x / (1 - x)")))
	for _, p := range c.Procs {
		for _, op := range p.Ops {
			used := !slices.Contains([]int{2, 3, 4, 5, 7, 11}, op.What)
			if !used && op.N != 0 || op.What != api.CodePush && len(op.Units) > 0 || op.What == api.CodePush && len(op.Units) != 1 {
				t.Error(op)
			}
		}
	}
}

// balanced is a sum of so many terms that is nested as little as possible.
func balanced(n int) string {
	if n == 1 {
		return "x"
	}
	return "(" + balanced(n/2) + " + " + balanced(n-n/2) + ")"
}

// P8.1: at most 200 instructions, and exponents from -30 to 30.
func TestCompileLimits(t *testing.T) {
	threes := strings.Repeat("m^3 ", 10)
	minus := strings.Repeat("m^-3 ", 10)
	for text, want := range map[string]api.Errno{
		"let f(x) = " + balanced(100):                                  api.OK,
		"let f(x) = " + balanced(100) + "^1":                           api.ErrLimit,
		"let f(x) = " + balanced(101):                                  api.ErrLimit,
		"let f(x) = " + balanced(99) + "^1":                            api.OK,
		"let f(x) = if x < x then " + balanced(97) + " else x^1":       api.OK,
		"let f(x) = if x < x then " + balanced(98) + " else x":         api.ErrLimit,
		"let f(x) = x\nlet g(x) = " + balanced(101) + "\nlet h(x) = x": api.ErrLimit,
		"let f(x) = " + balanced(100) + "\nlet g(x) = " + balanced(99): api.OK,
		"unit m\nlet c = 1[" + threes + "]":                            api.OK,
		"unit m\nlet c = 1[" + threes + "m]":                           api.ErrLimit,
		"unit m\nlet c = 1[" + threes + "m m^-1]":                      api.OK,
		"unit m\nlet c = 0[" + threes + "m]":                           api.ErrLimit,
		"unit m\nlet c = 1[" + minus + "]":                             api.OK,
		"unit m\nlet c = 1[" + minus + "m^-1]":                         api.ErrLimit,
		"unit m\nunit s\nlet c = 1[" + threes + "s^3]":                 api.OK,
		"unit s\nunit m\nlet c = 1[" + threes + "m^3]":                 api.ErrLimit,
		"unit m\nlet c = 1\nlet d = 2 + 1[" + threes + "m]":            api.ErrLimit,
	} {
		c, err := code.Compile(parsed(text))
		if err != want || err != api.OK && !sameCode(c, api.Code{}) {
			t.Error(text, err)
		}
		if i, err := code.Form(c); i != 0 || err != api.OK {
			t.Error(text, i, err)
		}
	}
}

// P8.1: a source that Parse returns for no string.
func TestCompileInvalid(t *testing.T) {
	x := api.Expr{Kind: api.ExprVar, Name: "x"}
	body := func(e api.Expr) api.Source {
		return api.Source{Defs: []api.Def{{Name: "f", Params: []string{"x"}, Body: e}}}
	}
	long := strings.Repeat("x + ", 10)
	deep := x
	for range 20 {
		deep = api.Expr{Kind: api.ExprRoot, Parts: []api.Expr{deep}}
	}
	for _, s := range []api.Source{
		body(api.Expr{Kind: 10, Parts: []api.Expr{x}}), body(api.Expr{Kind: -1}), body(api.Expr{Kind: api.ExprAdd, Parts: []api.Expr{x}}),
		body(api.Expr{Kind: api.ExprAdd}), body(api.Expr{Kind: api.ExprVar, Name: "y"}), body(api.Expr{Kind: api.ExprCall, Name: "f", Parts: []api.Expr{x}}),
		body(api.Expr{Kind: api.ExprCall, Name: "x"}), body(api.Expr{N: -1}), body(api.Expr{N: 10000000}), body(api.Expr{N: 1, Parts: []api.Expr{x}}),
		body(api.Expr{N: 1, Units: []api.Unit{{Name: "m", Exp: 1}}}), body(api.Expr{Kind: api.ExprPow, N: 4, Parts: []api.Expr{x}}), body(deep),
		body(api.Expr{Kind: api.ExprIf, Parts: []api.Expr{x, x, x}}), body(api.Expr{Kind: api.ExprVar, Name: long}),
		{Units: []string{"m", "m"}}, {Units: []string{"M"}}, {Units: []string{"a", "b", "c", "d", "e"}}, {Defs: make([]api.Def, 1)},
		{Defs: []api.Def{{Name: "f", Params: []string{"x", "x"}, Body: x}}}, {Defs: []api.Def{{Name: "f", Body: x}}},
	} {
		if c, err := code.Compile(s); err != api.ErrArg || !sameCode(c, api.Code{}) {
			t.Error(s, shown(c), err)
		}
	}
}

// P8.1: ErrArg comes before ErrLimit.
func TestCompileErrorOrder(t *testing.T) {
	s := parsed("let f(x) = " + balanced(101))
	s.Units = []string{"Z"}
	if _, err := code.Compile(s); err != api.ErrArg {
		t.Error(err)
	}
}

// P8.1: the same as by patching jumps.
func TestCompileAgainstWriter(t *testing.T) {
	found := map[api.Errno]int{}
	for i, s := range several(1, 5000) {
		if i%10 == 0 {
			s = parsed("unit m\nlet f(x) = root(" + balanced(96+i%7) + ") * 2\nlet g = 5[m^2 " + strings.Repeat("m^3 ", i%11) + "]")
		}
		before := fmt.Sprint(s)
		c, err := code.Compile(s)
		want, e := refCompile(s)
		if !sameCode(c, want) || err != e {
			t.Fatal(s, shown(c), err, shown(want), e)
		}
		found[err]++
		for _, p := range c.Procs {
			for _, op := range p.Ops {
				for u := range op.Units {
					op.Units[u] = 77
				}
			}
		}
		if again, err := code.Compile(s); fmt.Sprint(s) != before || !sameCode(again, want) || err != e {
			t.Fatal("memory is shared", before)
		}
	}
	if found[api.OK] < 4000 || found[api.ErrLimit] < 100 {
		t.Error(found)
	}
}
