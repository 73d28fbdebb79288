package lang_test

import (
	"math/rand"
	"reflect"
	"regexp"
	"strings"
	"testing"

	"tinplate/api"
	"tinplate/lang"
)

// Expressions, written down.

func num(n int, units ...api.Unit) api.Expr { return api.Expr{Kind: api.ExprNum, N: n, Units: units} }

func variable(name string) api.Expr { return api.Expr{Kind: api.ExprVar, Name: name} }

func call(name string, parts ...api.Expr) api.Expr {
	return api.Expr{Kind: api.ExprCall, Name: name, Parts: parts}
}

func of(kind int, parts ...api.Expr) api.Expr { return api.Expr{Kind: kind, Parts: parts} }

func power(e api.Expr, n int) api.Expr {
	return api.Expr{Kind: api.ExprPow, N: n, Parts: []api.Expr{e}}
}

var x, y = variable("x"), variable("y")

// P7.1
func TestParseExpressions(t *testing.T) {
	for text, want := range map[string]api.Expr{
		"0":                          num(0),
		"9999999":                    num(9999999),
		"x":                          x,
		"y":                          y,
		"x1":                         call("x1"),
		"c":                          call("c"),
		"f(x)":                       call("f", x),
		"g(x,y)":                     call("g", x, y),
		"x(y)":                       call("x", y),
		"f(f(c))":                    call("f", call("f", call("c"))),
		"x+y":                        of(3, x, y),
		"x-y-1":                      of(4, of(4, x, y), num(1)),
		"x-(y-1)":                    of(4, x, of(4, y, num(1))),
		"x+y-1+2":                    of(3, of(4, of(3, x, y), num(1)), num(2)),
		"x*y/2":                      of(6, of(5, x, y), num(2)),
		"x/(y*2)":                    of(6, x, of(5, y, num(2))),
		"x+y*2":                      of(3, x, of(5, y, num(2))),
		"x*y+2":                      of(3, of(5, x, y), num(2)),
		"(x+y)*2":                    of(5, of(3, x, y), num(2)),
		"x*y^2":                      of(5, x, power(y, 2)),
		"(x*y)^-3":                   power(of(5, x, y), -3),
		"(x^2)^3":                    power(power(x, 2), 3),
		"x^0":                        power(x, 0),
		"x^1":                        power(x, 1),
		"x ^ - 1":                    power(x, -1),
		"x^2-1":                      of(4, power(x, 2), num(1)),
		"x^-2-1":                     of(4, power(x, -2), num(1)),
		"2^2":                        power(num(2), 2),
		"2[m]^2":                     power(num(2, api.Unit{Name: "m", Exp: 1}), 2),
		"2[m^2]":                     num(2, api.Unit{Name: "m", Exp: 2}),
		"2 [ m ^ - 3 s^0 m^1 m ]":    num(2, api.Unit{Name: "m", Exp: -3}, api.Unit{Name: "s"}, api.Unit{Name: "m", Exp: 1}, api.Unit{Name: "m", Exp: 1}),
		"root(x)":                    of(8, x),
		"root ( x + y ) ^ 2":         power(of(8, of(3, x, y)), 2),
		"root((x))":                  of(8, x),
		"(((((((x)))))))":            x,
		"if x<y then 1 else 2":       of(9, x, y, num(1), num(2)),
		"if(x)<(y)then(1)else(2)":    of(9, x, y, num(1), num(2)),
		"if x+1<y*2 then x else y":   of(9, of(3, x, num(1)), of(5, y, num(2)), x, y),
		"(if x<y then x else y)+1":   of(3, of(9, x, y, x, y), num(1)),
		"if x<y then x else y+1":     of(9, x, y, x, of(3, y, num(1))),
		"f(if x<y then x else y)":    call("f", of(9, x, y, x, y)),
		"root(if x<y then x else y)": of(8, of(9, x, y, x, y)),
		"if(if x<y then x else y)<1 then if x<y then x else 1 else if y<x then y else 2": of(9,
			of(9, x, y, x, y), num(1), of(9, x, y, x, num(1)), of(9, y, x, y, num(2))),
	} {
		head := []string{"unit m", "unit s", "let c = 1", "let f(x) = x", "let x(x) = x", "let g(x, y) = x", "let x1 = 1"}
		s, line, err := lang.Parse(strings.Join(head, "\n") + "\nlet e(x, y) = " + text)
		def := api.Def{Name: "e", Params: []string{"x", "y"}, Body: want}
		if err != api.OK || line != 0 || !reflect.DeepEqual(s.Defs[5], def) {
			t.Error(text, s, line, err)
		}
	}
}

// P7.1
func TestParseSources(t *testing.T) {
	def := func(name string, body api.Expr, params ...string) api.Def {
		return api.Def{Name: name, Params: params, Body: body}
	}
	for text, want := range map[string]api.Source{
		"":                                   {},
		"\n  \n\n":                           {},
		"unit m":                             {Units: []string{"m"}},
		"  unit   m  \n\n  unit s2":          {Units: []string{"m", "s2"}},
		"unit m\nlet c=1\nunit s":            {Units: []string{"m", "s"}, Defs: []api.Def{def("c", num(1))}},
		"let c = 1\nlet d = c\n":             {Defs: []api.Def{def("c", num(1)), def("d", call("c"))}},
		"unit m\nlet m = 1[m]":               {Units: []string{"m"}, Defs: []api.Def{def("m", num(1, api.Unit{Name: "m", Exp: 1}))}},
		"let f ( x , y , z ) = x":            {Defs: []api.Def{def("f", x, "x", "y", "z")}},
		"let f(f) = f":                       {Defs: []api.Def{def("f", variable("f"), "f")}},
		"let f(x)=x\nlet g(f)=f(f)":          {Defs: []api.Def{def("f", x, "x"), def("g", call("f", variable("f")), "f")}},
		"let abcdefgh=1":                     {Defs: []api.Def{def("abcdefgh", num(1))}},
		"let a1234567=1":                     {Defs: []api.Def{def("a1234567", num(1))}},
		"let lets=1":                         {Defs: []api.Def{def("lets", num(1))}},
		"let roo=1":                          {Defs: []api.Def{def("roo", num(1))}},
		"let then1=1":                        {Defs: []api.Def{def("then1", num(1))}},
		"unit units":                         {Units: []string{"units"}},
		"let f(x) = x\nlet g(x) = f(f(1))\n": {Defs: []api.Def{def("f", x, "x"), def("g", call("f", call("f", num(1))), "x")}},
	} {
		if s, line, err := lang.Parse(text); !reflect.DeepEqual(s, want) || line != 0 || err != api.OK {
			t.Errorf("%q %v %v %v", text, s, line, err)
		}
	}
}

// refused checks the error of a text that begins with these definitions.
func refused(t *testing.T, text string, line int, err api.Errno) {
	t.Helper()
	if s, n, e := lang.Parse(text); !reflect.DeepEqual(s, api.Source{}) || n != line || e != err {
		t.Errorf("%q %v %v %v", text, s, n, e)
	}
}

// P7.1
func TestParseForm(t *testing.T) {
	for _, line := range []string{
		"unit", "unit m s", "unit 1", "unit M", "unit m,", "unit unit", "unit let", "unit if", "unit then", "unit else",
		"unit root", "unit abcdefghi", "unit 1a", "unit a_b", "unitm", "Unit m", "\tunit m", "unit\tm", "unit m\r",
		"unit \u00e9", "unit m\x00", "units m", "m", "= 1", "let", "let c", "let c =", "let = 1", "let c 1", "let c == 1",
		"let c = 1 = 1", "letc = 1", "let let = 1", "let c() = 1", "let c(x = 1", "let cx) = 1", "let c(x,) = 1",
		"let c(,x) = 1", "let c(x y) = 1", "let c(1) = 1", "let c(if) = 1", "let c((x)) = 1", "let c(x)(y) = 1",
		"let c(w, x, y, z) = 1", "let c(w, x, y, w) = 1", "let abcdefghi = 1", "let a12345678 = 1", "let c = 1;", "1", "let 1 = 1",
	} {
		refused(t, line, 1, api.ErrForm)
	}
	for _, text := range []string{
		"01", "00", "10000000", "12345678", "007", "1a", "1x", "1.5", "1 2", "1x 2", "-1", "+1", "1+", "*1", "1*/2", "1 + + 2",
		"1--2", "()", "(1", "1)", "(1))", "((1)", "[m]", "x[m]", "(1)[m]", "1[]", "1[", "1[m", "1[m)", "1(m]", "1[m,m]", "1[m*m]",
		"1[1]", "1[m^]", "1[m^4]", "1[m^-4]", "1[m^-0]", "1[m^10]", "1[m^2m]", "1[m^2 2]", "1[^2]", "1[m^m]", "1[m^+1]", "1[m][m]",
		"1[if]", "1[root]", "1[(m)]", "1[m^2^2]", "x^", "x^4", "x^-4", "x^-0", "x^00", "x^01", "x^10", "x^12", "x^y", "x^(2)",
		"x^2^2", "x^--1", "x^+1", "x^2x", "^2", "x^2(1)", "x^2[m]", "root", "root x", "root()", "root(x", "root(x,x)", "root[x]", "root^2", "f()",
		"f(x", "f(x,)", "f(,x)", "f(x))", "f(x)(x)", "f x", "f(x x)", "f[x]", "f{x}", "1(x)", "(f)(x)", "if", "then", "else", "let", "unit",
		"if x", "if x < 1", "if x < 1 then 2", "if x < 1 else 2", "if x then 1 else 2", "if x < 1 < 2 then 1 else 2",
		"if x < 1 then 2 else", "if x < 1 then else 2", "if < 1 then 1 else 2", "if x < then 1 else 2", "x < 1", "(x < 1)",
		"if x = 1 then 1 else 2", "if x > 1 then 1 else 2", "if x < 1 then 1 else 2 else 3", "if x < 1then 1 else 2",
		"if x < 1 then 1else 2", "ifx < 1 then 1 else 2", "if x < 1 then1 else 2", "if x < 1 then 1 else2", "if x<x^2then 1 else 2",
		"1 + if x < 1 then 1 else 2", "2 * if x < 1 then 1 else 2", "if if x < 1 then 1 else 2 < 1 then 1 else 2",
		"if 1 < if x < 1 then 1 else 2 then 1 else 2", "(if x < 1 then 1) else 2", "if x < 1 then (1 else 2)", "X", "x'", "x.y", "x, x",
		"x\t+ 1", "x\u00a0", "#", "x # y", "abcdefghi", "abcdefghi(x)", "x + abcdefghi", "1 % 2", "x ** 2", "x && x", "f(x;x)",
	} {
		refused(t, "unit m\n\nlet f(x) = x\nlet e(x) = "+text, 4, api.ErrForm)
	}
}

// P7.1
func TestParseNesting(t *testing.T) {
	deep := func(n int) []string {
		return []string{
			strings.Repeat("root(", n-1) + "1" + strings.Repeat(")", n-1),
			"1" + strings.Repeat(" + 1", n-1),
			strings.Repeat("(1 - ", n-1) + "1" + strings.Repeat(")", n-1),
			strings.Repeat("f(", n-1) + "c" + strings.Repeat(")", n-1),
			strings.Repeat("(", n-1) + "x" + strings.Repeat("^2)", n-1),
			strings.Repeat("if x < x then x else ", n-1) + "1",
			strings.Repeat("if x < x then ", n-1) + "1" + strings.Repeat(" else x", n-1),
			strings.Repeat("(((", 200) + "1" + strings.Repeat(" * 1", n-1) + strings.Repeat(")))", 200),
		}
	}
	head := "let c = 1\nlet f(x) = x\nlet e(x) = "
	for _, text := range deep(api.MaxNest) {
		if _, line, err := lang.Parse(head + text); line != 0 || err != api.OK {
			t.Error(text, line, err)
		}
	}
	for _, text := range deep(api.MaxNest + 1) {
		refused(t, head+text, 3, api.ErrForm)
	}
	wide := "f3(" + strings.Repeat("(", 1500) + "1" + strings.Repeat(")", 1500) + ", 2, 3)"
	if _, line, err := lang.Parse("let f3(x, y, z) = 1\nlet e = " + wide); line != 0 || err != api.OK {
		t.Error(line, err)
	}
}

// P7.1
func TestParseLimits(t *testing.T) {
	if s, line, err := lang.Parse("unit m" + strings.Repeat("\n", 3994)); len(s.Units) != 1 || line != 0 || err != api.OK {
		t.Error(s, line, err)
	}
	refused(t, "unit m"+strings.Repeat("\n", 3995), 0, api.ErrLimit)
	refused(t, strings.Repeat("?", 4001), 0, api.ErrLimit)
	refused(t, strings.Repeat("?", 4000), 1, api.ErrForm)
	refused(t, strings.Repeat("\n", 3999)+"?", 4000, api.ErrForm)
	units := "unit a\nunit b\nunit c\nunit d\n"
	defs := "let a=1\nlet b=1\nlet c=1\nlet d=1\nlet e=1\nlet f=1\nlet g=1\nlet h=1\nlet i=1\nlet j=1\nlet k=1\nlet l=1\n"
	if s, line, err := lang.Parse(units + defs); len(s.Units) != 4 || len(s.Defs) != 12 || line != 0 || err != api.OK {
		t.Error(s, line, err)
	}
	refused(t, units+defs+"unit e", 17, api.ErrLimit)
	refused(t, units+"unit a", 5, api.ErrLimit)
	refused(t, units+"unit 1", 5, api.ErrForm)
	refused(t, defs+"let m = 1", 13, api.ErrLimit)
	refused(t, defs+"let a = 1", 13, api.ErrLimit)
	refused(t, defs+"let m(x, x) = n + 1[n]", 13, api.ErrLimit)
	refused(t, defs+"let m(w, x, y, z) = 1", 13, api.ErrForm)
	refused(t, defs+"let m = 1 +", 13, api.ErrForm)
	refused(t, "?\n"+defs+"let m = 1", 1, api.ErrForm)
}

// P7.1
func TestParseNames(t *testing.T) {
	head := "unit m\nlet c = 1\nlet f(x) = x\nlet g(x, y) = x\n"
	for line, err := range map[string]api.Errno{
		"unit m":                              api.ErrExists,
		"let c = 1":                           api.ErrExists,
		"let c(x, x) = h + 1[s]":              api.ErrExists,
		"let f = h":                           api.ErrExists,
		"let e(x, x) = 1":                     api.ErrExists,
		"let e(x, y, x) = h":                  api.ErrExists,
		"let e(y, x, x) = f":                  api.ErrExists,
		"let e = e":                           api.ErrNone,
		"let e(x) = y":                        api.ErrNone,
		"let e(x) = x(1)":                     api.ErrNone,
		"let e(x) = h(f)":                     api.ErrNone,
		"let e(x) = e(x)":                     api.ErrNone,
		"let e = m":                           api.ErrNone,
		"let e = 1[s]":                        api.ErrNone,
		"let e = 1[m s]":                      api.ErrNone,
		"let e = 1[c]":                        api.ErrNone,
		"let e(x) = 1[x]":                     api.ErrNone,
		"let e = 0[s^0]":                      api.ErrNone,
		"let e = f":                           api.ErrArg,
		"let e = f(1, 2)":                     api.ErrArg,
		"let e = g(1)":                        api.ErrArg,
		"let e = g(1, 2, 3)":                  api.ErrArg,
		"let e = c(1)":                        api.ErrArg,
		"let e = h + f":                       api.ErrNone,
		"let e = f + h":                       api.ErrArg,
		"let e = f * 1[s]":                    api.ErrArg,
		"let e = 1[s] * f":                    api.ErrNone,
		"let e = f(h, 1)":                     api.ErrArg,
		"let e = f(h) + f":                    api.ErrNone,
		"let e = g(f, h)":                     api.ErrArg,
		"let e = g(h, f)":                     api.ErrNone,
		"let e = g(1, f(c(1)))":               api.ErrArg,
		"let e = root(f)^2":                   api.ErrArg,
		"let e = root(h)^2":                   api.ErrNone,
		"let e = if f < h then 1 else 2":      api.ErrArg,
		"let e = if h < f then 1 else 2":      api.ErrNone,
		"let e = if 1 < h then f else 2":      api.ErrNone,
		"let e = if 1 < 2 then f else h":      api.ErrArg,
		"let e = if 1 < 2 then h else f":      api.ErrNone,
		"let e = if 1 < 2 then 1 else f(1,h)": api.ErrArg,
		"let e = 1 - h":                       api.ErrNone,
		"let e = 1 - (2 * f)":                 api.ErrArg,
		"let e = 1[m] / 1[s]":                 api.ErrNone,
	} {
		refused(t, head+line, 5, err)
		refused(t, head+line+"\nunit s\nlet h = 1\nlet e = 1\n?", 5, err)
	}
	for _, line := range []string{"unit c", "let m = 1", "let e(c) = c", "let e(m) = m + 1[m]", "let e(f) = f(f(f))", "let c1 = 1"} {
		if s, n, err := lang.Parse(head + line); len(s.Units)+len(s.Defs) != 5 || n != 0 || err != api.OK {
			t.Error(line, s, n, err)
		}
	}
	refused(t, "let c = 1[m]\nunit m", 1, api.ErrNone)
	refused(t, "let c = d\nlet d = 1", 1, api.ErrNone)
	refused(t, "let c = d\n?", 1, api.ErrNone)
}

// same reports an input for which Parse does not do what the reference does.
func same(t *testing.T, text string) api.Errno {
	t.Helper()
	s, line, err := lang.Parse(text)
	want, n, e := refParse(text)
	if !reflect.DeepEqual(s, want) || line != n || err != e {
		t.Fatalf("%q\n%v %v %v\n%v %v %v", text, s, line, err, want, n, e)
	}
	return err
}

// P7.1
func TestParseAnyText(t *testing.T) {
	r := rand.New(rand.NewSource(1))
	for _, want := range several(1, 4000) {
		text := anyText(r, want)
		s, line, err := lang.Parse(text)
		if len(text) <= 4000 && (!reflect.DeepEqual(s, want) || line != 0 || err != api.OK) {
			t.Fatalf("%q %v %v %v", text, s, line, err)
		}
		same(t, text)
	}
}

// exchanged is a text with a few other letters, or words that are at another place.
func exchanged(r *rand.Rand, text string) string {
	const letters = "aeflmst019 \n=(),<+-*/^[]?"
	for range 1 + r.Intn(3) {
		words := wordPlaces.FindAllStringIndex(text, -1)
		if r.Intn(2) == 0 && len(words) > 0 {
			from, to := pick(r, words...), pick(r, words...)
			text = text[:to[0]] + text[from[0]:from[1]] + text[to[1]:]
			continue
		}
		a, i := r.Intn(len(text)+1), r.Intn(len(letters))
		b := min(len(text), a+r.Intn(3))
		text = text[:a] + letters[i:min(len(letters), i+r.Intn(2))] + text[b:]
	}
	return text
}

var wordPlaces = regexp.MustCompile(`[a-z0-9]+|[(),]`)

// P7.1
func TestParseChangedTexts(t *testing.T) {
	r := rand.New(rand.NewSource(2))
	found := map[api.Errno]int{}
	for _, s := range several(2, 12000) {
		found[same(t, exchanged(r, anyText(r, s)))]++
	}
	for _, err := range []api.Errno{api.OK, api.ErrForm, api.ErrNone, api.ErrArg, api.ErrExists} {
		if found[err] < 20 {
			t.Error(found)
		}
	}
}

// P7.1: texts of words in any order.
func TestParseAnyWords(t *testing.T) {
	r := rand.New(rand.NewSource(3))
	words := strings.Fields("x y c f ( ) ( ) x 1 2 0 + - * / ^ 2 ^ -1 , < [ m ] if then else root 2[m] c f(x)")
	good := 0
	for range 60000 {
		var text strings.Builder
		text.WriteString("unit m\nlet c=1\nlet f(x)=x\nlet e(x,y)=")
		for range 1 + r.Intn(8) {
			text.WriteString(words[r.Intn(len(words))] + " ")
		}
		if same(t, text.String()) == api.OK {
			good++
		}
	}
	if good < 100 {
		t.Error(good)
	}
}

// P7.1: a result shares no memory with another one.
func TestParseNewMemory(t *testing.T) {
	text := "unit m\nlet g1 = 1\nlet f1(x, y) = x\nlet f(x, y) = g1 + 2[m] * f1(x, y)"
	first, second := parsed(text), parsed(text)
	spoil(&first)
	if want := parsed(text); !reflect.DeepEqual(second, want) {
		t.Error(second, want)
	}
}

// spoil changes all that a source has.
func spoil(s *api.Source) {
	for i := range s.Units {
		s.Units[i] = "?"
	}
	for i := range s.Defs {
		for j := range s.Defs[i].Params {
			s.Defs[i].Params[j] = "?"
		}
		spoilExpr(&s.Defs[i].Body)
		s.Defs[i] = api.Def{}
	}
}

func spoilExpr(e *api.Expr) {
	for i := range e.Units {
		e.Units[i] = api.Unit{}
	}
	for i := range e.Parts {
		spoilExpr(&e.Parts[i])
		e.Parts[i] = api.Expr{}
	}
}
