package lang_test

import (
	"math"
	"math/rand"
	"reflect"
	"slices"
	"strings"
	"testing"

	"tinplate/api"
	"tinplate/lang"
)

// P7.2
func TestPrint(t *testing.T) {
	for text, want := range map[string]string{
		"":                                       "",
		" \n\n":                                  "",
		"unit m":                                 "unit m\n",
		"let c=1\nunit m\nlet d=c\n\nunit s":     "unit m\nunit s\nlet c = 1\nlet d = c\n",
		"let f(x,y , z)=x":                       "let f(x, y, z) = x\n",
		"let f(x)=((x))":                         "let f(x) = x\n",
		"let f(x)=x+(x-(x+x))":                   "let f(x) = x + (x - (x + x))\n",
		"let f(x)=((x+x)-x)+x":                   "let f(x) = x + x - x + x\n",
		"let f(x)=x*(x/(x*x))":                   "let f(x) = x * (x / (x * x))\n",
		"let f(x)=((x*x)/x)*x":                   "let f(x) = x * x / x * x\n",
		"let f(x)=(x*x)+(x/x)-(x^2*x)":           "let f(x) = x * x + x / x - x^2 * x\n",
		"let f(x)=(x+x)*(x-x)":                   "let f(x) = (x + x) * (x - x)\n",
		"let f(x)=x/(x+x)/x":                     "let f(x) = x / (x + x) / x\n",
		"let f(x)=((x)^ - 2)^3":                  "let f(x) = (x^-2)^3\n",
		"let f(x)=(x*x)^0+(x+x)^1":               "let f(x) = (x * x)^0 + (x + x)^1\n",
		"let f(x)=(root((x)))^2+((7))^2":         "let f(x) = root(x)^2 + 7^2\n",
		"let f(x)=root((x+x))":                   "let f(x) = root(x + x)\n",
		"let f(x)=x\nlet g(x)=f((x+x))*(f(x))":   "let f(x) = x\nlet g(x) = f(x + x) * f(x)\n",
		"let f(x,y)=x\nlet g=f(1 ,(f(2,3)))":     "let f(x, y) = x\nlet g = f(1, f(2, 3))\n",
		"unit m\nunit s\nlet c=5[m s ^- 2]":      "unit m\nunit s\nlet c = 5[m s^-2]\n",
		"unit m\nlet c=5 [ m^1 m^0 m m^2 m^-1 ]": "unit m\nlet c = 5[m m^0 m m^2 m^-1]\n",
		"unit m\nlet c=(5[m])^2-(5[m])":          "unit m\nlet c = 5[m]^2 - 5[m]\n",
		"let f(x)=if(x)<(x+1)then(x)else(1)":     "let f(x) = if x < x + 1 then x else 1\n",
		"let f(x)=(if x<1 then 2 else 3)":        "let f(x) = if x < 1 then 2 else 3\n",
		"let f(x)=(if x<1 then 2 else 3)+1":      "let f(x) = (if x < 1 then 2 else 3) + 1\n",
		"let f(x)=1+(if x<1 then 2 else 3)":      "let f(x) = 1 + (if x < 1 then 2 else 3)\n",
		"let f(x)=1*(if x<1 then 2 else 3)":      "let f(x) = 1 * (if x < 1 then 2 else 3)\n",
		"let f(x)=(if x<1 then 2 else 3)^2":      "let f(x) = (if x < 1 then 2 else 3)^2\n",
		"let f(x)=root((if x<1 then 2 else 3))":  "let f(x) = root(if x < 1 then 2 else 3)\n",
		"let f(x)=if(if x<1 then 2 else 3)<(if x<1 then 2 else 3)then(if x<1 then 2 else 3)else(if x<1 then 2 else 3)": "let f(x) = if " +
			"(if x < 1 then 2 else 3) < (if x < 1 then 2 else 3) then if x < 1 then 2 else 3 else if x < 1 then 2 else 3\n",
	} {
		if got, err := lang.Print(parsed(text)); got != want || err != api.OK {
			t.Errorf("%q %q %v", text, got, err)
		}
	}
}

// P7.2: no parentheses can be left out, and the blanks are those that are asked for.
func TestPrintFewParentheses(t *testing.T) {
	for _, s := range several(10, 1500) {
		text, err := lang.Print(s)
		if want := plainText(s); len(want) > 4000 {
			continue
		} else if text != want || err != api.OK {
			t.Fatalf("%q %q %v", text, want, err)
		}
		for i := range text {
			if text[i] != '(' {
				continue
			}
			tokens := pairless(text, i)
			if got, _, err := refParse(tokens); err == api.OK && reflect.DeepEqual(got, s) {
				t.Fatal(text, i)
			}
		}
		for line := range strings.Lines(text) {
			tokens, _ := tokensOf(strings.TrimSuffix(line, "\n"))
			if line != spaced(tokens)+"\n" {
				t.Fatal(text)
			}
		}
	}
}

// pairless is a text without the parenthesis at that place and the one that closes it.
func pairless(text string, i int) string {
	open := 0
	for j := i; ; j++ {
		open += opens(text[j : j+1])
		if open == 0 {
			return text[:i] + " " + text[i+1:j] + " " + text[j+1:]
		}
	}
}

// P7.8
func TestThereAndBack(t *testing.T) {
	r := rand.New(rand.NewSource(11))
	long := 0
	for i, s := range several(11, 3000) {
		if i%100 == 0 {
			m := maker{Rand: r, units: 4, defs: 12, depth: 7}
			s = m.source()
		}
		text, err := lang.Print(s)
		if len(plainText(s)) > 4000 {
			long++
			if text != "" || err != api.ErrArg {
				t.Fatal(s, text, err)
			}
			continue
		}
		again, line, e := lang.Parse(text)
		if err != api.OK || e != api.OK || line != 0 || !reflect.DeepEqual(again, s) {
			t.Fatalf("%v %q %v %v %v %v", s, text, err, again, line, e)
		}
	}
	if long < 5 {
		t.Error(long)
	}
}

// P7.2: the limit is that of the text that is printed, not that of one that has fewer blanks.
func TestPrintLongSources(t *testing.T) {
	list := "[m" + strings.Repeat(" m", 1990) + "]"
	s := parsed("unit m", "let c=1"+list)
	if text, err := lang.Print(s); text != "unit m\nlet c = 1"+list+"\n" || len(text) != 4000 || err != api.OK {
		t.Error(len(text), err)
	}
	if _, i, err := lang.Infer(s); i != 0 || err != api.ErrRange {
		t.Error(i, err)
	}
	if _, err := lang.Eval(s, "c", nil, []api.Ratio{{Num: 1, Den: 1}}); err != api.ErrRange {
		t.Error(err)
	}
	s = parsed("unit m", "let c=12"+list)
	if text, err := lang.Print(s); text != "" || err != api.ErrArg {
		t.Error(len(text), err)
	}
	if _, i, err := lang.Infer(s); i != 0 || err != api.ErrArg {
		t.Error(i, err)
	}
	if _, err := lang.Eval(s, "c", nil, []api.Ratio{{Num: 1, Den: 1}}); err != api.ErrArg {
		t.Error(err)
	}
}

// P7.2, P7.8: as deep as may be.
func TestPrintDeepSources(t *testing.T) {
	for _, wrap := range []func(e api.Expr) api.Expr{
		func(e api.Expr) api.Expr { return of(api.ExprRoot, e) },
		func(e api.Expr) api.Expr { return power(e, 2) },
		func(e api.Expr) api.Expr { return call("f", e) },
		func(e api.Expr) api.Expr { return of(api.ExprAdd, e, x) },
		func(e api.Expr) api.Expr { return of(api.ExprSub, x, e) },
		func(e api.Expr) api.Expr { return of(api.ExprMul, e, x) },
		func(e api.Expr) api.Expr { return of(api.ExprDiv, x, e) },
		func(e api.Expr) api.Expr { return of(api.ExprIf, x, e, x, x) },
		func(e api.Expr) api.Expr { return of(api.ExprIf, x, x, e, x) },
	} {
		s := parsed("let f(x) = x", "let g(x) = x")
		for nest := 2; nest <= api.MaxNest; nest++ {
			s.Defs[1].Body = wrap(s.Defs[1].Body)
		}
		if text, err := lang.Print(s); text != plainText(s) || err != api.OK {
			t.Error(text, err)
		}
		s.Defs[1].Body = wrap(s.Defs[1].Body)
		if text, err := lang.Print(s); text != "" || err != api.ErrArg {
			t.Error(text, err)
		}
	}
}

// invalid sources are those that no text has; each changes a good one.
func invalid() map[string]api.Source {
	list := map[string]api.Source{}
	add := func(name string, change func(s *api.Source)) {
		s := parsed("unit m", "let c = 1", "let f(x) = x", "let g(x, y) = f(x) + 2[m^2]")
		change(&s)
		list[name] = s
	}
	body := func(name string, e api.Expr) { add(name, func(s *api.Source) { s.Defs[2].Body = e }) }
	add("unit 1", func(s *api.Source) { s.Units[0] = "1" })
	add("unit empty", func(s *api.Source) { s.Units = append(s.Units, "") })
	add("unit long", func(s *api.Source) { s.Units = append(s.Units, "abcdefghi") })
	add("unit blank", func(s *api.Source) { s.Units = append(s.Units, "s ") })
	add("unit word", func(s *api.Source) { s.Units = append(s.Units, "let") })
	add("unit lines", func(s *api.Source) { s.Units = append(s.Units, "s\nunit a") })
	add("unit let", func(s *api.Source) { s.Units = append(s.Units, "s\nlet h = 1") })
	add("unit twice", func(s *api.Source) { s.Units = append(s.Units, "m") })
	add("units", func(s *api.Source) { s.Units = []string{"m", "n", "o", "p", "q"} })
	add("no unit", func(s *api.Source) { s.Units = nil })
	add("other unit", func(s *api.Source) { s.Units = []string{"s"} })
	add("defs", func(s *api.Source) {
		for i := range 10 {
			s.Defs = append(s.Defs, api.Def{Name: "h" + string(rune('0'+i)), Body: num(1)})
		}
	})
	add("name", func(s *api.Source) { s.Defs[0].Name = "" })
	add("name twice", func(s *api.Source) { s.Defs[2].Name = "c" })
	add("name word", func(s *api.Source) { s.Defs[2].Name = "if" })
	add("name with parameter", func(s *api.Source) { s.Defs[2].Name = "h(x)"; s.Defs[2].Params = nil })
	add("name with body", func(s *api.Source) { s.Defs[2].Name = "h = 1\nlet g" })
	add("params", func(s *api.Source) { s.Defs[2].Params = []string{"w", "x", "y", "z"} })
	add("param twice", func(s *api.Source) { s.Defs[2].Params = []string{"x", "x"} })
	add("param word", func(s *api.Source) { s.Defs[2].Params[1] = "then" })
	add("param number", func(s *api.Source) { s.Defs[2].Params[1] = "2" })
	add("params in one", func(s *api.Source) { s.Defs[2].Params = []string{"x, y"} })
	add("no params", func(s *api.Source) { s.Defs[2].Params = nil })
	add("order", func(s *api.Source) { slices.Reverse(s.Defs) })
	add("call of itself", func(s *api.Source) { s.Defs[1].Body = call("f", x) })
	add("late call", func(s *api.Source) { s.Defs[0].Body = call("f", num(1)) })
	body("no kind", of(10))
	body("kind below 0", of(-1))
	body("least kind", of(math.MinInt))
	body("greatest kind", of(math.MaxInt))
	body("number below 0", num(-1))
	body("great number", num(10000000))
	body("least number", num(math.MinInt))
	body("number with name", api.Expr{N: 1, Name: "c"})
	body("number with parts", of(api.ExprNum, num(1)))
	body("number with another unit", num(1, api.Unit{Name: "s", Exp: 1}))
	body("number with no name", num(1, api.Unit{Exp: 1}))
	body("number with exponent 4", num(1, api.Unit{Name: "m", Exp: 4}))
	body("number with exponent -4", num(1, api.Unit{Name: "m", Exp: -4}))
	body("number with two units in one", num(1, api.Unit{Name: "m m", Exp: 1}))
	body("number with exponent in name", num(1, api.Unit{Name: "m^2", Exp: 1}))
	body("number with the least exponent", num(1, api.Unit{Name: "m", Exp: math.MinInt}))
	body("unknown variable", variable("z"))
	body("variable that is a call", variable("c"))
	body("variable without a name", variable(""))
	body("variable with a number", api.Expr{Kind: api.ExprVar, Name: "x", N: 1})
	body("variable with units", api.Expr{Kind: api.ExprVar, Name: "x", Units: []api.Unit{{Name: "m", Exp: 1}}})
	body("variable with parts", api.Expr{Kind: api.ExprVar, Name: "x", Parts: []api.Expr{x}})
	body("variable that is a sum", variable("x + y"))
	body("call of a parameter", call("x"))
	body("unknown call", call("h"))
	body("call without a name", call("", x))
	body("call with a number", api.Expr{Kind: api.ExprCall, Name: "c", N: 1})
	body("call with units", api.Expr{Kind: api.ExprCall, Name: "c", Units: []api.Unit{{Name: "m", Exp: 1}}})
	body("call with too few parts", call("f"))
	body("call with too many parts", call("c", x))
	body("call with its parts in its name", call("f(x)"))
	for kind := api.ExprAdd; kind <= api.ExprIf; kind++ {
		count := []int{2, 2, 2, 2, 1, 1, 4}[kind-api.ExprAdd]
		parts := slices.Repeat([]api.Expr{x}, 5)
		for n := range 6 {
			if n != count {
				body(string(rune('0'+kind))+" with parts "+string(rune('0'+n)), of(kind, parts[:n]...))
			}
		}
		if kind != api.ExprPow {
			body(string(rune('0'+kind))+" with a number", api.Expr{Kind: kind, N: 1, Parts: parts[:count]})
		}
		body(string(rune('0'+kind))+" with a name", api.Expr{Kind: kind, Name: "x", Parts: parts[:count]})
		body(string(rune('0'+kind))+" with units", api.Expr{Kind: kind, Units: []api.Unit{{Name: "m", Exp: 1}}, Parts: parts[:count]})
	}
	body("power 4", power(x, 4))
	body("power -4", power(x, -4))
	body("the least power", power(x, math.MinInt))
	deep := x
	for range 20 {
		deep = of(api.ExprRoot, deep)
	}
	body("deep", deep)
	body("bad part", of(api.ExprAdd, x, num(-1)))
	// An expression that is a part of itself, and one that has few parts, but is more than anything could hold.
	circle := []api.Expr{{Kind: api.ExprRoot}}
	circle[0].Parts = circle
	body("circle", circle[0])
	circle = []api.Expr{{Kind: api.ExprCall}, {Kind: api.ExprCall}}
	circle[0].Parts, circle[1].Parts = circle, circle
	body("circles", circle[0])
	for kind := api.ExprAdd; kind <= api.ExprIf; kind++ {
		circle = slices.Repeat([]api.Expr{{Kind: kind}}, []int{2, 2, 2, 2, 1, 1, 4}[kind-api.ExprAdd])
		for i := range circle {
			circle[i].Parts = circle
		}
		body("circle of "+string(rune('0'+kind)), circle[0])
	}
	tree := []api.Expr{{Kind: api.ExprCall}, {Kind: api.ExprCall}, {Kind: api.ExprCall}}
	for range 18 {
		tree = slices.Repeat([]api.Expr{{Kind: api.ExprCall, Parts: tree}}, 3)
	}
	body("tree", tree[0])
	body("empty tree", of(api.ExprIf, of(api.ExprIf), of(api.ExprIf), of(api.ExprIf), of(api.ExprIf)))
	return list
}

// P7.2, and ErrArg of P7.5 and P7.7
func TestInvalidSources(t *testing.T) {
	one := []api.Ratio{{Num: 1, Den: 1}}
	for name, s := range invalid() {
		if text, err := lang.Print(s); text != "" || err != api.ErrArg {
			t.Error(name, text, err)
		}
		if types, i, err := lang.Infer(s); len(types) > 0 || i != 0 || err != api.ErrArg {
			t.Error(name, types, i, err)
		}
		scales := slices.Repeat(one, len(s.Units))
		if v, err := lang.Eval(s, "c", nil, scales); v != (api.Ratio{}) || err != api.ErrArg {
			t.Error(name, v, err)
		}
		if v, err := lang.Eval(s, "no", one, nil); v != (api.Ratio{}) || err != api.ErrArg {
			t.Error(name, v, err)
		}
	}
}

// P7.2: empty lists are as good as none.
func TestEmptyLists(t *testing.T) {
	empty := api.Expr{Kind: api.ExprCall, Name: "c", Units: []api.Unit{}, Parts: []api.Expr{}}
	s := api.Source{Units: []string{}, Defs: []api.Def{
		{Name: "c", Params: []string{}, Body: api.Expr{N: 1, Units: []api.Unit{}, Parts: []api.Expr{}}},
		{Name: "d", Body: empty},
	}}
	if text, err := lang.Print(s); text != "let c = 1\nlet d = c\n" || err != api.OK {
		t.Error(text, err)
	}
	if types, _, err := lang.Infer(s); len(types) != 2 || err != api.OK {
		t.Error(types, err)
	}
	if v, err := lang.Eval(s, "d", nil, nil); v != (api.Ratio{Num: 1, Den: 1}) || err != api.OK {
		t.Error(v, err)
	}
	s = api.Source{Units: []string{}, Defs: []api.Def{}}
	if text, err := lang.Print(s); text != "" || err != api.OK {
		t.Error(text, err)
	}
}
