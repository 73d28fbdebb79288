package code_test

import (
	"math/big"
	"math/rand"
	"slices"
	"strings"
	"testing"

	"tinplate/api"
	"tinplate/code"
	"tinplate/lang"
)

// P8.5: what is compiled is well formed, has the same types, and the same values.
func TestCorrect(t *testing.T) {
	r := rand.New(rand.NewSource(40))
	inferred, evaluated := map[api.Errno]int{}, map[api.Errno]int{}
	for _, s := range several(41, 30000) {
		c, err := code.Compile(s)
		if err != api.OK {
			continue
		}
		if i, err := code.Form(c); i != 0 || err != api.OK {
			t.Fatal(s, i, err)
		}
		types, i, err := code.Verify(c)
		want, j, e := lang.Infer(s)
		if !slices.EqualFunc(types, want, sameScheme) || i != j || err != e {
			t.Fatal(need(lang.Print(s)), types, i, err, want, j, e)
		}
		inferred[err]++
		p := r.Intn(len(s.Defs))
		args, scales := arguments(r, c.Procs[p].Params, c.Units)
		v, _, err := code.Run(c, p, args, scales, api.MaxFuel)
		w, e := lang.Eval(s, s.Defs[p].Name, args, scales)
		if (v != w || err != e) && err != api.ErrFuel && e != api.ErrFuel {
			t.Fatal(need(lang.Print(s)), args, scales, v, err, w, e)
		}
		evaluated[err]++
	}
	for _, err := range []api.Errno{api.OK, api.ErrLimit, api.ErrUnit} {
		if inferred[err] < 300 {
			t.Error(inferred)
		}
	}
	for _, err := range []api.Errno{api.OK, api.ErrZero, api.ErrRoot, api.ErrRange} {
		if evaluated[err] < 1000 {
			t.Error(evaluated)
		}
	}
}

// P8.5: expressions that are nested as deep as they may be, with as many values on the stack.
func TestCorrectForDeepExpressions(t *testing.T) {
	for _, c := range []struct{ before, after string }{
		{"x + (", ")"}, {"x * (", ")"}, {"root(", ")"}, {"g(x, x, ", ")"}, {"if x < 2 then ", " else x"},
		{"if x < 2 then 1 else ", ""}, {"1 - (if x < ", " then 1 else x)"}, {"if (", ") < x then 1 else x"}, {"h(", ")"},
	} {
		for n := range 20 {
			text := strings.Repeat(c.before, n) + "x" + strings.Repeat(c.after, n)
			s, _, err := lang.Parse("let g(x, y, z) = z\nlet h(x) = if x < 1 then 1 else x\nlet f(x) = " + text)
			if err != api.OK {
				continue
			}
			compiled := need(code.Compile(s))
			if i, err := code.Form(compiled); i != 0 || err != api.OK {
				t.Error(text, i, err)
			}
			types, i, err := code.Verify(compiled)
			if want, j, e := lang.Infer(s); !slices.EqualFunc(types, want, sameScheme) || i != j || err != e {
				t.Error(text, types, i, err, want, j, e)
			}
			for _, x := range fractions("0 1 3") {
				v, _, err := code.Run(compiled, 2, []api.Ratio{x}, nil, api.MaxFuel)
				if w, e := lang.Eval(s, "f", []api.Ratio{x}, nil); v != w || err != e {
					t.Error(text, x, v, err, w, e)
				}
			}
		}
	}
}

// P8.5: large coefficients.
func TestCorrectForLargeNumbers(t *testing.T) {
	powers := []string{"x", "((x^3)^3 * x)^3", "1", "((x^3)^3 * x)^-3", "y", "x^3", "((x * 1[m^3])^3 * 1[m])^3", "0", "root(y)", "x * ((x^3)^3 * x)^3"}
	found := map[api.Errno]int{}
	for _, a := range powers {
		for _, b := range powers {
			for _, d := range powers {
				for _, form := range []string{"if 1 < 2 then A else if 1 < 2 then B else D", "A + B * D", "A * B + D", "if A < B then D else 1", "if 1 < 2 then if 1 < 2 then A else B else D"} {
					text := strings.NewReplacer("A", a, "B", b, "D", d).Replace(form)
					s := parsed("unit m\nlet f(x, y) = " + text + "\nlet g(x) = f(x, x)")
					types, i, err := code.Verify(need(code.Compile(s)))
					if want, j, e := lang.Infer(s); !slices.EqualFunc(types, want, sameScheme) || i != j || err != e {
						t.Fatal(text, types, i, err, want, j, e)
					}
					found[err]++
				}
			}
		}
	}
	if found[api.OK] < 500 || found[api.ErrRange] < 500 {
		t.Error(found)
	}
}

// P8.6
func TestNeverStuck(t *testing.T) {
	r := rand.New(rand.NewSource(50))
	found := map[api.Errno]int{}
	for _, c := range anyCode(50, 8000) {
		i := r.Intn(len(c.Procs))
		args, scales := arguments(r, c.Procs[i].Params, c.Units)
		_, n, err := code.Run(c, i, args, scales, api.MaxFuel)
		found[err]++
		calls := slices.ContainsFunc(c.Procs[i].Ops, func(op api.Op) bool { return op.What == api.CodeCall })
		if calls {
			continue
		}
		if _, _, again := code.Run(c, i, args, scales, len(c.Procs[i].Ops)); n > len(c.Procs[i].Ops) || err == api.ErrFuel || again != err {
			t.Fatal(shown(c), args, scales, n, err)
		}
	}
	for err := range found {
		if !slices.Contains([]api.Errno{api.OK, api.ErrZero, api.ErrRoot, api.ErrRange, api.ErrFuel}, err) {
			t.Error(found)
		}
	}
}

// someDims are an instance of a type.
func someDims(r *rand.Rand, t api.Scheme, units int) [][]int {
	var dims [][]int
	for u := range units {
		dim := slices.Clone(t.Fixed[u])
		for _, row := range t.Rows {
			k := r.Intn(5) - 2
			for j := range dim {
				dim[j] += k * row[j]
			}
		}
		dims = append(dims, dim)
	}
	return dims
}

// measured is a value times the scales raised to the numbers of dims in a column: false if it is beyond the limits.
func measured(v api.Ratio, scales []api.Ratio, dims [][]int, column int) (api.Ratio, bool) {
	x := exact(v)
	for u, dim := range dims {
		x = new(big.Rat).Mul(x, raised(exact(scales[u]), dim[column]))
	}
	return api.Ratio{Num: int(x.Num().Int64()), Den: int(x.Denom().Int64())}, within(x)
}

// P8.7
func TestUnitsDoNotMatter(t *testing.T) {
	r := rand.New(rand.NewSource(60))
	count, changed := 0, 0
	m := newMaker(60)
	m.rich = true
	for _, c := range m.programs(40000) {
		types, _, err := code.Verify(c)
		if err != api.OK || c.Units == 0 {
			continue
		}
		i := r.Intn(len(types))
		var scales, args, others []api.Ratio
		for range c.Units {
			scales = append(scales, pick(r, fractions("2 3 1/2 2/3 5/4 4 1/9")...))
		}
		dims := someDims(r, types[i], c.Units)
		good := true
		for j := range types[i].Params {
			arg := pick(r, fractions("0 1 2 -3 1/2 4 9/4 -2/3")...)
			other, ok := measured(arg, scales, dims, j)
			good = good && ok
			args, others = append(args, arg), append(others, other)
		}
		if !good {
			continue
		}
		plain, _, err := code.Run(c, i, args, ones(c.Units), api.MaxFuel)
		other, _, e := code.Run(c, i, others, scales, api.MaxFuel)
		if err != api.OK || e != api.OK {
			continue
		}
		if want, ok := measured(plain, scales, dims, types[i].Params); !ok || other != want {
			t.Fatal(shown(c), i, args, scales, dims, plain, other, want)
		}
		count++
		if plain != other {
			changed++
		}
	}
	if count < 1000 || changed < 300 {
		t.Error(count, changed)
	}
}

// P8.8
func TestFuelIsCounted(t *testing.T) {
	r := rand.New(rand.NewSource(70))
	for _, c := range anyCode(70, 2000) {
		i := len(c.Procs) - 1
		args, scales := arguments(r, c.Procs[i].Params, c.Units)
		_, enough, e := refRun(c, i, args, scales, api.MaxFuel)
		if e == api.ErrFuel {
			continue
		}
		v, n, err := code.Run(c, i, args, scales, enough)
		if err != e || err == api.OK && n != enough {
			t.Fatal(shown(c), args, scales, enough, n, err, e)
		}
		for _, fuel := range []int{enough + 1, enough + 7, api.MaxFuel} {
			if w, m, e := code.Run(c, i, args, scales, fuel); w != v || m != n || e != err {
				t.Fatal(shown(c), args, scales, fuel, v, n, err, w, m, e)
			}
		}
		for fuel := range min(enough, 50) {
			if w, m, e := code.Run(c, i, args, scales, enough-1-fuel); w != (api.Ratio{}) || m != 0 || e != api.ErrFuel {
				t.Fatal(shown(c), args, scales, enough-1-fuel, w, m, e)
			}
		}
	}
}
