package lang_test

import (
	"fmt"
	"math/big"
	"math/rand"
	"slices"
	"testing"

	"tinplate/api"
	"tinplate/lang"
)

// inferred are the types of a source that has types.
func inferred(s api.Source) []api.Scheme {
	types, _, err := lang.Infer(s)
	return need(types, err)
}

// P7.9: dims fits a type exactly if free choices can be found.
func TestPrincipalTypes(t *testing.T) {
	r := rand.New(rand.NewSource(40))
	found := map[bool]int{}
	for _, s := range typed(40, 3000) {
		types := map[string]api.Scheme{}
		for i, scheme := range inferred(s) {
			q, result := system(s, types, s.Defs[i])
			types[s.Defs[i].Name] = scheme
			for range 5 {
				dims := someDims(r, scheme, len(s.Units))
				want := true
				for u, dim := range dims {
					want = want && solvable(q, result, u, dim)
				}
				if is, err := lang.Fits(scheme, len(s.Units), dims); is != want || err != api.OK {
					t.Fatal(plainText(s), scheme, dims, is, err)
				}
				if len(dims) > 0 {
					found[want]++
				}
			}
		}
	}
	if found[true] < 1000 || found[false] < 1000 {
		t.Error(found)
	}
}

// someDims are an instance of a type, or are near to one.
func someDims(r *rand.Rand, t api.Scheme, units int) [][]int {
	var dims [][]int
	for u := range units {
		dim := slices.Clone(t.Fixed[u])
		for _, row := range t.Rows {
			k := r.Intn(5) - 2
			for j := range dim {
				dim[j] += k * row[j]
			}
		}
		if r.Intn(5) == 0 {
			dim[r.Intn(len(dim))] += r.Intn(5) - 2
		}
		dims = append(dims, dim)
	}
	return dims
}

// P7.9: by trying all small free choices, where the definition has no constants.
func TestPrincipalTypesBySearch(t *testing.T) {
	for text, params := range map[string]int{
		"let p(x) = root(x)": 1, "let p(x) = x * 0^2": 1, "let p(x, y) = root(x) * root(y)": 2,
		"let p(x, y) = root(x * y^2)": 2, "let p(x) = x^2 - 0^3": 1, "let p(x) = 0^3 - x^2": 1,
	} {
		s := parsed("unit m", text)
		scheme := inferred(s)[0]
		q, result := system(s, nil, s.Defs[0])
		for v := range vectors(params+1, 7) {
			want := false
			for c := range vectors(q.unknowns-params, 25) {
				unknowns := slices.Concat(v[:params], c)
				holds := at(result, unknowns) == v[params]
				for _, f := range q.zero {
					holds = holds && at(f, unknowns) == 0
				}
				want = want || holds
			}
			if is := need(lang.Fits(scheme, 1, [][]int{v})); is != want {
				t.Fatal(text, v, is)
			}
		}
	}
}

// at is what a form without constants is for these unknowns, if there is one unit.
func at(f shape, unknowns []int) int {
	sum := 0
	for i, x := range unknowns {
		sum += f[1+i] * x
	}
	return sum
}

// vectors are all of that length, with numbers whose absolute value is at most limit.
func vectors(n, limit int) func(func([]int) bool) {
	return func(yield func([]int) bool) {
		v := slices.Repeat([]int{-limit}, n)
		for {
			if !yield(slices.Clone(v)) {
				return
			}
			i := 0
			for i < n && v[i] == limit {
				v[i] = -limit
				i++
			}
			if i == n {
				return
			}
			v[i]++
		}
	}
}

// P7.10
func TestUnitsDoNotMatter(t *testing.T) {
	r := rand.New(rand.NewSource(41))
	count := 0
	for _, s := range typed(42, 6000) {
		types := inferred(s)
		i := r.Intn(len(types))
		scheme, d := types[i], s.Defs[i]
		var scales, args, others []api.Ratio
		for range s.Units {
			scales = append(scales, pick(r, fractions("2 3 1/2 2/3 5/4 4 1/9")...))
		}
		dims := someDims(r, scheme, len(s.Units))
		if !need(lang.Fits(scheme, len(s.Units), dims)) {
			continue
		}
		good := true
		for j := range d.Params {
			arg := pick(r, fractions("0 1 2 -3 1/2 4 9/4 -2/3")...)
			other, ok := measured(arg, scales, dims, j)
			good = good && ok
			args, others = append(args, arg), append(others, other)
		}
		if !good {
			continue
		}
		plain, err := lang.Eval(s, d.Name, args, ones(len(s.Units)))
		other, e := lang.Eval(s, d.Name, others, scales)
		if err != api.OK || e != api.OK {
			continue
		}
		if want, ok := measured(plain, scales, dims, len(d.Params)); !ok || other != want {
			t.Fatal(plainText(s), d.Name, args, scales, dims, plain, other, want)
		}
		if len(s.Units) > 0 {
			count++
		}
	}
	if count < 500 {
		t.Error(count)
	}
}

// measured is a value times the scales raised to the numbers of dims in a column: false if it is beyond the limits.
func measured(v api.Ratio, scales []api.Ratio, dims [][]int, column int) (api.Ratio, bool) {
	x := exact(v)
	for u, dim := range dims {
		x = new(big.Rat).Mul(x, raised(exact(scales[u]), dim[column]))
	}
	return api.Ratio{Num: int(x.Num().Int64()), Den: int(x.Denom().Int64())}, within(x)
}

// P7.11
func TestCallsAlone(t *testing.T) {
	r := rand.New(rand.NewSource(43))
	count := 0
	for _, s := range slices.Concat(several(43, 3000), typed(44, 3000)) {
		d := s.Defs[r.Intn(len(s.Defs))]
		e := api.Expr{Kind: api.ExprCall, Name: d.Name}
		for _, p := range d.Params {
			e.Parts = append(e.Parts, variable(p))
		}
		s.Defs = append(s.Defs, api.Def{Name: "alone", Params: d.Params, Body: e})
		if len(plainText(s)) > api.MaxText {
			continue
		}
		if types, _, err := lang.Infer(s); err == api.OK {
			count++
			i := slices.IndexFunc(s.Defs, func(o api.Def) bool { return o.Name == d.Name })
			if !sameScheme(types[i], types[len(types)-1]) {
				t.Fatal(plainText(s), types)
			}
		}
		args, scales := fractions("1/2 4 -3")[:len(d.Params)], fractions("2 1/3 5 1")[:len(s.Units)]
		v, err := lang.Eval(s, d.Name, args, scales)
		w, e2 := lang.Eval(s, "alone", args, scales)
		if v != w || err != e2 {
			t.Fatal(plainText(s), v, err, w, e2)
		}
	}
	if count < 1000 {
		t.Error(count)
	}
}

// P2: the same call has the same result.
func TestSameAgain(t *testing.T) {
	for _, s := range several(45, 300) {
		text, err := lang.Print(s)
		types, i, e := lang.Infer(s)
		first := fmt.Sprint(text, err, types, i, e)
		text, err = lang.Print(s)
		types, i, e = lang.Infer(s)
		if second := fmt.Sprint(text, err, types, i, e); first != second {
			t.Fatal(first, second)
		}
	}
}
