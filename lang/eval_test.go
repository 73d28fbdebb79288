package lang_test

import (
	"fmt"
	"math"
	"math/rand"
	"slices"
	"strconv"
	"strings"
	"testing"

	"tinplate/api"
	"tinplate/lang"
)

const most = api.MaxValue

// fractions makes ratios of words like 3/4.
func fractions(words string) []api.Ratio {
	var list []api.Ratio
	for _, word := range strings.Fields(words) {
		num, den, ok := strings.Cut(word, "/")
		r := api.Ratio{Den: 1}
		r.Num, _ = strconv.Atoi(num)
		if ok {
			r.Den, _ = strconv.Atoi(den)
		}
		list = append(list, r)
	}
	return list
}

func ones(n int) []api.Ratio { return slices.Repeat([]api.Ratio{{Num: 1, Den: 1}}, n) }

// value is that of the definition e of some lines, for x and y.
func value(lines, args string, scales string) string {
	v, err := lang.Eval(parsed(lines), "e", fractions(args), fractions(scales))
	switch {
	case err != api.OK && v != (api.Ratio{}):
		return fmt.Sprint(v, " error ", err)
	case err != api.OK:
		return fmt.Sprint("error ", err)
	case v.Den == 1:
		return strconv.Itoa(v.Num)
	}
	return fmt.Sprint(v.Num, "/", v.Den)
}

const (
	large = "2147483648"
	root  = "46341" // the square of the number below is within the limits
)

// P7.7
func TestEval(t *testing.T) {
	for _, c := range []struct{ body, args, want string }{
		{"0", "1 1", "0"},
		{"9999999", "1 1", "9999999"},
		{"x", "3/2 1", "3/2"},
		{"y", "3/2 -7/5", "-7/5"},
		{"x", large + "/2147483647 1", large + "/2147483647"},
		{"y", "1 -" + large, "-" + large},
		{"y", "1 1/" + large, "1/" + large},
		{"x + y", "1/2 1/3", "5/6"},
		{"x + y", "1/6 1/3", "1/2"},
		{"x + y", "1/2 -1/2", "0"},
		{"x - y", "1/2 1/3", "1/6"},
		{"x - y", "1/3 1/2", "-1/6"},
		{"x - y", "0 -1/2", "1/2"},
		{"x - y - y", "1 2", "-3"},
		{"x * y", "2/3 3/4", "1/2"},
		{"x * y", "-2/3 -3", "2"},
		{"x * y", "0 -3", "0"},
		{"x / y", "2/3 4/3", "1/2"},
		{"x / y", "2/3 -4/3", "-1/2"},
		{"x / y", "-2 -4", "1/2"},
		{"x / y", "0 -4", "0"},
		{"x / y / y", "12 2", "3"},
		{"x / y", "1 0", "error 13"},
		{"x / y", "0 0", "error 13"},
		{"x / (y - y)", "1 1/3", "error 13"},
		{"x^2", "-2/3 1", "4/9"},
		{"x^3", "-2/3 1", "-8/27"},
		{"x^1", "-2/3 1", "-2/3"},
		{"x^0", "-2/3 1", "1"},
		{"x^0", "0 1", "1"},
		{"x^3", "0 1", "0"},
		{"x^-1", "-2/3 1", "-3/2"},
		{"x^-2", "-2/3 1", "9/4"},
		{"x^-3", "-2/3 1", "-27/8"},
		{"x^-1", "0 1", "error 13"},
		{"x^-3", "0 1", "error 13"},
		{"root(x)", "0 1", "0"},
		{"root(x)", "1 1", "1"},
		{"root(x)", "9/4 1", "3/2"},
		{"root(x)", "2 1", "error 14"},
		{"root(x)", "4/3 1", "error 14"},
		{"root(x)", "3/4 1", "error 14"},
		{"root(x)", "-4 1", "error 14"},
		{"root(x)", "-1/4 1", "error 14"},
		{"root(x)", "2147395600 1", "46340"},
		{"root(x)", "1/2147395600 1", "1/46340"},
		{"root(x)", "2147395601 1", "error 14"},
		{"root(x)", "2147395599 1", "error 14"},
		{"root(x)", large + " 1", "error 14"},
		{"root(x)", "-" + large + " 1", "error 14"},
		{"root(x * x + y * y)", "3/5 4/5", "1"},
		{"root(x^2)", "-3 1", "3"},
		{"if x < y then 1 else 2", "1/3 1/2", "1"},
		{"if x < y then 1 else 2", "1/2 1/3", "2"},
		{"if x < y then 1 else 2", "1/2 1/2", "2"},
		{"if x < y then 1 else 2", "-1/2 -1/3", "1"},
		{"if x < y then 1 else 2", "2147483647/" + large + " " + large + "/2147483647", "1"},
		{"if x < y then 1 else 2", "2147483646/2147483647 2147483647/" + large, "1"},
		{"if x < y then 1 else 2", "-" + large + " " + large, "1"},
		{"if x < y then x / 0 else y", "1 2", "error 13"},
		{"if x < y then x / 0 else y", "2 1", "1"},
		{"if x < y then x else y / 0", "1 2", "1"},
		{"if x < y then x else y / 0", "2 1", "error 13"},
		{"if 1 / x < y then 1 else 2", "0 1", "error 13"},
		{"if x < 1 / y then 1 else 2", "0 0", "error 13"},
		{"g(x, y)", "1 3", "-2"},
		{"g(y, x)", "1 3", "2"},
		{"g(g(x, y), g(y, y + x))", "1 3", "-1"},
		{"c * x", "1 3", "7"},
		{"x + y", large + " 0", large},
		{"x + y", large + " 1", "error 4"},
		{"x + y", "-" + large + " 0", "-" + large},
		{"x + y", "-" + large + " -1", "error 4"},
		{"x - y", "-" + large + " 1", "error 4"},
		{"x - y", "-" + large + " -" + large, "0"},
		{"x - y", large + " -" + large, "error 4"},
		{"0 - x", "-" + large + " 1", large},
		{"x + y", large + " " + large, "error 4"},
		{"x + y", large + "/2147483647 2147483647/" + large, "error 4"},
		{"x + y", "1/" + large + " 1/" + large, "1/1073741824"},
		{"x + y", "1/" + large + " 1/3", "error 4"},
		{"x + y", "1/65536 1/32767", "98303/2147418112"},
		{"x + y", "1/65536 1/32769", "error 4"},
		{"x + y", "1/2147483647 1", large + "/2147483647"},
		{"x + y", "2/2147483647 1", "error 4"},
		{"x * y", "65536 32768", large},
		{"x * y", "65536 -32768", "-" + large},
		{"x * y", "65537 32768", "error 4"},
		{"x * y", "1/65536 1/32768", "1/" + large},
		{"x * y", "1/65537 1/32768", "error 4"},
		{"x * y", large + " 1/" + large, "1"},
		{"x * y", large + "/2147483647 2147483647/" + large, "1"},
		{"x / y", "1 1/" + large, large},
		{"x / y", "1 -" + large, "-1/" + large},
		{"x / y", "2 1/" + large, "error 4"},
		{"x / y", "1/2 -" + large, "error 4"},
		{"x / y", large + " -" + large, "-1"},
		{"x^2", "46340 1", "2147395600"},
		{"x^2", root + " 1", "error 4"},
		{"x^2", "1/" + root + " 1", "error 4"},
		{"x^3", "1290 1", "2146689000"},
		{"x^3", "-1290 1", "-2146689000"},
		{"x^3", "1291 1", "error 4"},
		{"x^3", large + " 1", "error 4"},
		{"x^-3", "1291 1", "error 4"},
		{"x^-3", "-" + large + " 1", "error 4"},
		{"x^-1", "-" + large + " 1", "-1/" + large},
		{"x^-1", "-1/" + large + " 1", "-" + large},
		{"x^3", "-1 1", "-1"},
		{"x^-3", "-1 1", "-1"},
		{"x * x / x", "46340 1", "46340"},
		{"x * x / x", root + " 1", "error 4"},
		{"1 / 0 + root(2)", "1 1", "error 13"},
		{"root(2) + 1 / 0", "1 1", "error 14"},
		{"x * x + 1 / 0", large + " 1", "error 4"},
		{"1 / 0 + x * x", large + " 1", "error 13"},
		{"(x * x) / 0", large + " 1", "error 4"},
		{"root(x * x * x)", "-" + large + " 1", "error 4"},
		{"root(1 / 0)", "1 1", "error 13"},
		{"g(1 / 0, root(2))", "1 1", "error 13"},
		{"g(root(2), 1 / 0)", "1 1", "error 14"},
		{"if root(2) < 1 / 0 then 1 else 2", "1 1", "error 14"},
		{"(0 - 1)^3 * (0 - 2)^-2", "1 1", "-1/4"},
	} {
		lines := "let c = 7\nlet g(x, y) = x - y\nlet e(x, y) = " + c.body
		if got := value(lines, c.args, ""); got != c.want {
			t.Error(c, got)
		}
	}
}

// P7.7: numbers with units.
func TestEvalUnits(t *testing.T) {
	for _, c := range []struct{ body, scales, want string }{
		{"5[m s^-2]", "1 1", "5"},
		{"5[m s^-2]", "100 1", "500"},
		{"5[m s^-2]", "100 60", "5/36"},
		{"5[m^2]", "1/2 1", "5/4"},
		{"5[m^-3]", "1/2 1", "40"},
		{"5[m^0]", "1/2 1", "5"},
		{"5[m m s m^-1]", "2 3", "30"},
		{"5", "2 3", "5"},
		{"0[m]", "2 3", "0"},
		{"0[m^-1]", "2 3", "0"},
		{"0[m^3]", large + " 1", "0"},
		{"1[m]^2", "3 1", "9"},
		{"1[m] + 1[s]", "3 1/2", "7/2"},
		{"4[m]", "1/6 1", "2/3"},
		{"6[m]", "5/9 1", "10/3"},
		{"1[m]", large + " 1", large},
		{"1[m]", "1/" + large + " 1", "1/" + large},
		{"2[m]", large + " 1", "error 4"},
		{"2[m]", "1/" + large + " 1", "1/1073741824"},
		{"1[m^-1]", large + " 1", "1/" + large},
		{"2[m^-1]", "1/" + large + " 1", "error 4"},
		{"1[m^2]", "46340 1", "2147395600"},
		{"1[m^2]", root + " 1", "error 4"},
		{"1[m^-2]", root + " 1", "error 4"},
		{"1[m^3 m^3 m^3 m^3 m^3 m^3 m^3 m^3 m^3 m^3]", "2 1", "1073741824"},
		{"2[m^3 m^3 m^3 m^3 m^3 m^3 m^3 m^3 m^3 m^3]", "2 1", large},
		{"3[m^3 m^3 m^3 m^3 m^3 m^3 m^3 m^3 m^3 m^3]", "2 1", "error 4"},
		{"2[m^3 m^3 m^3 m^3 m^3 m^3 m^3 m^3 m^3 m^3 s]", "2 2", "error 4"},
		{"2[m^3 m^3 m^3 m^3 m^3 m^3 m^3 m^3 m^3 m^3 s^-1]", "2 2", "1073741824"},
		{"9999999[m^-3 m^-3 m^-3 m^-3 m^-3 m^-3 m^-3 m^-3 m^-3 m^-3]", "2 1", "9999999/1073741824"},
		{"8388608[m^-3 m^-3 m^-3 m^-3 m^-3 m^-3 m^-3 m^-3 m^-3 m^-3 s^-3 s^-3 s^-3 s^-3 s^-3 s^-3 s^-3 s^-3]", "2 2", "1/" + large},
		{"8388608[m^-3 m^-3 m^-3 m^-3 m^-3 m^-3 m^-3 m^-3 m^-3 m^-3 s^-3 s^-3 s^-3 s^-3 s^-3 s^-3 s^-3 s^-3 s^-1]", "2 2", "error 4"},
		{"1[m^3 m^3 m^3 m^3 m^3 m^3 m^3 m^3 m^3 m^3]", "1 1", "1"},
		{"1[m^3 m^3 m^3 m^3 m^3 m^3 m^3 m^3 m^3 m^3 m]", "1 1", "error 4"},
		{"0[m^3 m^3 m^3 m^3 m^3 m^3 m^3 m^3 m^3 m^3 m]", "1 1", "error 4"},
		{"1[s^-3 s^-3 s^-3 s^-3 s^-3 s^-3 s^-3 s^-3 s^-3 s^-3]", "1 1", "1"},
		{"1[s^-3 s^-3 s^-3 s^-3 s^-3 s^-3 s^-3 s^-3 s^-3 s^-3 s^-1]", "1 1", "error 4"},
		{"1[m^3 m^3 m^3 m^3 m^3 m^3 m^3 m^3 m^3 m^3 m m^-1]", "1 1", "1"},
		{"7[m^3 m^3 m^3 m^3 m^3 m^3 m^3 m^3 m^3 m^3 s^3 s^3 s^3 s^3 s^3 s^3 s^3 s^3 s^3 s^3]", large + " 1/" + large, "7"},
		{"7[m^3 m^3 m^3 m^3 m^3 m^3 m^3 m^3 m^3 m^3 s^-3 s^-3 s^-3 s^-3 s^-3 s^-3 s^-3 s^-3 s^-3 s^-3]", "720720/510511 720720/510511", "7"},
		{"7[m^3 m^3 m^3 m^3 m^3 s^-3 s^-3 s^-3 s^-3 s^-3 s^-3 s^-3 s^-3 s^-3 s^-3]", "144/25 12/5", "7"},
		{"7[m^3 m^3 m^3 m^3 m^3 s^-3 s^-3 s^-3 s^-3 s^-3 s^-3 s^-3 s^-3 s^-3 s^-2]", "144/25 12/5", "84/5"},
		{"7[m^3 m^3 m^3 m^3 m^3 m^3 m^3 m^3 m^3 m^3 s^3 s^3 s^3 s^3 s^3 s^3 s^3 s^3 s^3 s^3]", large + " 2147483647/" + large, "error 4"},
	} {
		if got := value("unit m\nunit s\nlet e = "+c.body, "", c.scales); got != c.want {
			t.Error(c, got)
		}
	}
	if got := value("let z = 1\nunit m\nlet f(x) = x * 1[m]\nlet e(x) = f(x)", "3/2", "7"); got != "21/2" {
		t.Error(got)
	}
}

// P7.7
func TestEvalArguments(t *testing.T) {
	s := parsed("unit m", "let c = 1[m]", "let f(x) = x + c", "let g(x, y) = 1 / 0")
	good := ones(1)
	bad := []api.Ratio{
		{}, {Num: 1}, {Num: 1, Den: -1}, {Num: 0, Den: 2}, {Num: 2, Den: 2}, {Num: 6, Den: 4}, {Num: -6, Den: 4}, {Num: -2, Den: -4},
		{Num: most + 1, Den: 1}, {Num: -most - 1, Den: 1}, {Num: 1, Den: most + 1}, {Num: math.MinInt, Den: 1},
		{Num: math.MaxInt, Den: 1}, {Num: 1, Den: math.MaxInt}, {Num: 1, Den: math.MinInt}, {Num: math.MinInt, Den: math.MinInt},
	}
	refused := func(name string, args, scales []api.Ratio, want api.Errno) {
		t.Helper()
		if v, err := lang.Eval(s, name, args, scales); v != (api.Ratio{}) || err != want {
			t.Error(name, args, scales, v, err)
		}
	}
	for _, r := range bad {
		one := []api.Ratio{r}
		refused("f", one, good, api.ErrArg)
		refused("f", good, one, api.ErrArg)
		refused("c", nil, one, api.ErrArg)
		refused("g", []api.Ratio{good[0], r}, good, api.ErrArg)
		refused("h", one, good, api.ErrArg)
		refused("h", good, one, api.ErrArg)
	}
	refused("c", nil, []api.Ratio{{Num: 0, Den: 1}}, api.ErrArg)
	refused("c", nil, []api.Ratio{{Num: -1, Den: 1}}, api.ErrArg)
	refused("c", nil, []api.Ratio{{Num: -1, Den: 2}}, api.ErrArg)
	refused("h", nil, []api.Ratio{{Num: -1, Den: 2}}, api.ErrArg)
	refused("c", nil, nil, api.ErrArg)
	refused("c", nil, ones(2), api.ErrArg)
	refused("h", nil, nil, api.ErrArg)
	refused("h", nil, ones(2), api.ErrArg)
	for _, name := range []string{"h", "", "m", "C", "x", "f(1)", "let"} {
		refused(name, nil, good, api.ErrNone)
		refused(name, ones(3), good, api.ErrNone)
	}
	refused("c", good, good, api.ErrArg)
	refused("f", nil, good, api.ErrArg)
	refused("f", ones(2), good, api.ErrArg)
	refused("g", ones(1), good, api.ErrArg)
	refused("g", ones(3), good, api.ErrArg)
	refused("g", ones(2), good, api.ErrZero)
	args, scales := fractions("-5/7"), fractions("3/2")
	if v, err := lang.Eval(s, "f", args, scales); v != (api.Ratio{Num: 11, Den: 14}) || err != api.OK {
		t.Error(v, err)
	}
	if args[0] != fractions("-5/7")[0] || scales[0] != fractions("3/2")[0] {
		t.Error(args, scales)
	}
	if v, err := lang.Eval(s, "f", []api.Ratio{{Num: 0, Den: 1}}, fractions("3/2")); v != scales[0] || err != api.OK {
		t.Error(v, err)
	}
}

// P7.7: types play no part.
func TestEvalWithoutTypes(t *testing.T) {
	s := parsed("unit m", "let e(x) = x + x * x + 1[m] + "+zeros(7))
	if _, _, err := lang.Infer(s); err != api.ErrLimit {
		t.Error(err)
	}
	if v, err := lang.Eval(s, "e", fractions("1/2"), fractions("3")); v != (api.Ratio{Num: 15, Den: 4}) || err != api.OK {
		t.Error(v, err)
	}
}

// spending is an expression that takes exactly n steps, from 2 on: it calls those of burners.
func spending(n int) string {
	var terms []string
	left := n + 1 // each term costs one step for a sum, but one of them
	take := func(term string, cost int) {
		for left-cost >= 2 || left == cost {
			terms, left = append(terms, term), left-cost
		}
	}
	take("d", 32753)
	for i := 9; i >= 0; i-- {
		take(fmt.Sprint("c", i), 4<<i-1)
	}
	take("1", 2)
	return balanced(terms)
}

func balanced(terms []string) string {
	if len(terms) == 1 {
		return terms[0]
	}
	half := len(terms) / 2
	return "(" + balanced(terms[:half]) + "+" + balanced(terms[half:]) + ")"
}

func burners() string {
	lines := []string{"let c0 = 1"}
	for i := range 9 {
		lines = append(lines, fmt.Sprint("let c", i+1, " = c", i, " + c", i))
	}
	return strings.Join(append(lines, "let d = "+strings.TrimSuffix(strings.Repeat("c9 + ", 16), " + ")), "\n")
}

// P7.7: 100000 steps.
func TestEvalFuel(t *testing.T) {
	for _, c := range []struct {
		before string
		n      int
		after  string
		want   api.Errno
	}{
		{"", 100000, "", api.OK},
		{"", 100001, "", api.ErrFuel},
		{"", 200000, "", api.ErrFuel},
		{"", 99999, "^1", api.OK},
		{"", 100000, "^1", api.ErrFuel},
		{"", 99998, " + x", api.OK},
		{"", 99999, " + x", api.ErrFuel},
		{"x + ", 99998, "", api.OK},
		{"x + ", 99999, "", api.ErrFuel},
		{"", 99998, " / 0", api.ErrZero},
		{"", 99999, " / 0", api.ErrFuel},
		{"1 / 0 + ", 100000, "", api.ErrZero},
		{"root(2 * ", 99997, ")", api.ErrRoot},
		{"root(2 * ", 99998, ")", api.ErrFuel},
		{"root(2) * ", 100000, "", api.ErrRoot},
		{"if 1 < 2 then ", 99997, " else 1", api.OK},
		{"if 1 < 2 then ", 99998, " else 1", api.ErrFuel},
		{"if 1 < 2 then 1 else ", 100000, "", api.OK},
		{"if 2 < 1 then ", 100000, " else 1", api.OK},
		{"if 2 < 1 then 1 else ", 99997, "", api.OK},
		{"if 2 < 1 then 1 else ", 99998, "", api.ErrFuel},
		{"if ", 99997, " < 1 then 1 else 2", api.OK},
		{"if ", 99998, " < 1 then 1 else 2", api.ErrFuel},
		{"x^0 * ", 99997, "", api.OK},
		{"x^0 * ", 99998, "", api.ErrFuel},
	} {
		text := burners() + "\nlet e(x) = " + c.before + spending(c.n) + c.after
		s := parsed(text)
		v, err := lang.Eval(s, "e", ones(1), nil)
		if want, steps, e := refEval(s, "e", ones(1), nil); v != want || err != e || err != c.want {
			t.Error(c, v, err, want, steps, e)
		}
	}
}

// reasonable makes an argument: a small one, or one near the limits.
func reasonable(r *rand.Rand) api.Ratio {
	part := func() int {
		return pick(r, 1, 1, 2, 3, 4, 1+r.Intn(12), most-r.Intn(3), 46340, 1<<r.Intn(32), r.Intn(most)+1)
	}
	num, den := part(), part()
	if r.Intn(3) > 0 {
		num, den = 1+r.Intn(9), 1+r.Intn(4)
	}
	g := int(exact(api.Ratio{Num: num, Den: den}).Denom().Int64())
	return api.Ratio{Num: num / (den / g), Den: g}
}

// P7.7: the same as with numbers of any length.
func TestEvalAgainstReckoning(t *testing.T) {
	r := rand.New(rand.NewSource(30))
	found := map[api.Errno]int{}
	for _, s := range several(31, 30000) {
		if len(plainText(s)) > api.MaxText {
			continue
		}
		d := s.Defs[len(s.Defs)-1]
		var args, scales []api.Ratio
		for range d.Params {
			a := reasonable(r)
			args = append(args, pick(r, a, a, a, api.Ratio{Num: -a.Num, Den: a.Den}, api.Ratio{Num: 0, Den: 1}))
		}
		for range s.Units {
			scales = append(scales, reasonable(r))
		}
		v, err := lang.Eval(s, d.Name, args, scales)
		want, _, e := refEval(s, d.Name, args, scales)
		if v != want || err != e {
			t.Fatal(plainText(s), args, scales, v, err, want, e)
		}
		found[err]++
	}
	for _, err := range []api.Errno{api.OK, api.ErrZero, api.ErrRoot, api.ErrRange} {
		if found[err] < 500 {
			t.Error(found)
		}
	}
}

// P7.7: units whose scales have divisors in common.
func TestEvalScales(t *testing.T) {
	r := rand.New(rand.NewSource(32))
	found := map[api.Errno]int{}
	for range 20000 {
		s := api.Source{Units: []string{"a", "b", "c", "d"}[:1+r.Intn(4)]}
		e := num(pick(r, 1, 2, 7, 9999999, 1+r.Intn(9999), 5040, 8388608))
		var scales []api.Ratio
		for _, name := range s.Units {
			for range r.Intn(4) {
				e.Units = append(e.Units, api.Unit{Name: name, Exp: r.Intn(7) - 3})
			}
			if r.Intn(3) == 0 {
				e.Units = append(e.Units, slices.Repeat([]api.Unit{{Name: name, Exp: pick(r, -3, 3, 2)}}, r.Intn(12))...)
			}
			f := exact(reasonable(r))
			if r.Intn(2) == 0 {
				f.SetFrac64(int64(pick(r, 2, 4, 6, 12, 36, 64, 5)), int64(pick(r, 2, 3, 4, 9, 6, 18, 5)))
			}
			scales = append(scales, api.Ratio{Num: int(f.Num().Int64()), Den: int(f.Denom().Int64())})
		}
		s.Defs = []api.Def{{Name: "e", Body: e}}
		v, err := lang.Eval(s, "e", nil, scales)
		if want, _, e := refEval(s, "e", nil, scales); v != want || err != e {
			t.Fatal(plainText(s), scales, v, err, want, e)
		}
		found[err]++
	}
	if found[api.OK] < 2000 || found[api.ErrRange] < 2000 {
		t.Error(found)
	}
}
