package lang_test

import (
	"fmt"
	"math"
	"math/big"
	"math/rand"
	"reflect"
	"slices"
	"strings"
	"testing"

	"tinplate/api"
	"tinplate/lang"
)

// lastType is the type of the last definition of some lines, without the number of its parameters.
func lastType(t *testing.T, lines string) string {
	t.Helper()
	s := parsed(lines)
	types, i, err := lang.Infer(s)
	if err != api.OK {
		return fmt.Sprint(i, " error ", err)
	}
	last := types[len(types)-1]
	if i != 0 || len(types) != len(s.Defs) || last.Params != len(s.Defs[len(types)-1].Params) || len(last.Fixed) != len(s.Units) {
		t.Error(lines, types, i)
	}
	return fmt.Sprint(last.Rows, last.Fixed)
}

// P7.3 to P7.5
func TestInfer(t *testing.T) {
	for lines, want := range map[string]string{
		"let c = 5":                                                "[] []",
		"let c = 0":                                                "[[1]] []",
		"let c = 0 * 0":                                            "[[1]] []",
		"let c = 0 + 0":                                            "[[1]] []",
		"let c = 0 + 1":                                            "[] []",
		"let c = 1 - 0":                                            "[] []",
		"let c = 0^2":                                              "[[2]] []",
		"let c = 0^0":                                              "[] []",
		"let c = 0^-3":                                             "[[3]] []",
		"let c = root(0)":                                          "[[1]] []",
		"let c = root(1)":                                          "[] []",
		"let c = 0^2 / root(0)^3":                                  "[[1]] []",
		"let c = 0^2 * root(0)^2":                                  "[[2]] []",
		"let id(x) = x":                                            "[[1 1]] []",
		"let k(x) = 1":                                             "[[1 0]] []",
		"let k(x) = 0":                                             "[[1 0] [0 1]] []",
		"let inv(x) = 1 / x":                                       "[[1 -1]] []",
		"let sq(x) = x * x":                                        "[[1 2]] []",
		"let sq(x) = x^2":                                          "[[1 2]] []",
		"let p(x) = x^0":                                           "[[1 0]] []",
		"let p(x) = x^-3":                                          "[[1 -3]] []",
		"let p(x) = x + 1":                                         "[] []",
		"let p(x) = 1 + x":                                         "[] []",
		"let p(x) = x - 0":                                         "[[1 1]] []",
		"let p(x) = x^2 - x":                                       "[] []",
		"let p(x) = x^2 - x^2":                                     "[[1 2]] []",
		"let p(x) = root(x)":                                       "[[2 1]] []",
		"let p(x) = root(root(x))":                                 "[[4 1]] []",
		"let p(x) = root(x)^2":                                     "[[2 2]] []",
		"let p(x) = root(x^2)":                                     "[[1 1]] []",
		"let p(x) = root(x^3)":                                     "[[2 3]] []",
		"let p(x) = x * 0":                                         "[[1 0] [0 1]] []",
		"let p(x) = x * 0^2":                                       "[[1 1] [0 2]] []",
		"let p(x) = x / 0^3":                                       "[[1 1] [0 3]] []",
		"let p(x) = x^2 * 0^3":                                     "[[1 2] [0 3]] []",
		"let p(x) = x^-1 * 0^3":                                    "[[1 2] [0 3]] []",
		"let hyp(x, y) = root(x*x + y*y)":                          "[[1 1 1]] []",
		"let m(x, y) = x * y":                                      "[[1 0 1] [0 1 1]] []",
		"let m(x, y) = y / x":                                      "[[1 0 -1] [0 1 1]] []",
		"let m(x, y) = x":                                          "[[1 0 1] [0 1 0]] []",
		"let m(x, y) = root(x * y)":                                "[[1 1 1] [0 2 1]] []",
		"let m(x, y) = root(x) * root(y)":                          "[[2 0 1] [0 2 1]] []",
		"let m(x, y) = x^2 + y^3":                                  "[[3 2 6]] []",
		"let m(x, y) = if x < y then 1 else 2":                     "[[1 1 0]] []",
		"let m(x, y) = if 0 < 1 then x else y":                     "[[1 1 1]] []",
		"let m(x, y) = if x < 1 then y else 0":                     "[[0 1 1]] []",
		"let m(x, y) = if 1 < x then 0 else y":                     "[[0 1 1]] []",
		"let m(x, y, z) = x * y / z":                               "[[1 0 0 1] [0 1 0 1] [0 0 1 -1]] []",
		"let m(x, y, z) = if x^2 < y^3 then z else z":              "[[3 2 0 0] [0 0 1 1]] []",
		"unit m\nlet c = 5[m]":                                     "[] [[1]]",
		"unit m\nlet c = 5[m^-3]":                                  "[] [[-3]]",
		"unit m\nlet c = 5[m m^2]":                                 "[] [[3]]",
		"unit m\nlet c = 0[m]":                                     "[] [[1]]",
		"unit m\nlet c = 0[m m^-1]":                                "[[1]] [[0]]",
		"unit m\nlet c = 0[m^0]":                                   "[[1]] [[0]]",
		"unit m\nlet c = 1[m m^-1]":                                "[] [[0]]",
		"unit m\nunit s\nlet c = 0[m s m^-1]":                      "[] [[0] [1]]",
		"unit m\nunit s\nlet c = 0[m s^-1]":                        "[] [[1] [-1]]",
		"unit m\nunit s\nlet c = 5[s^2 m]^-2":                      "[] [[-2] [-4]]",
		"unit m\nlet p(x) = x + 1[m^2]":                            "[] [[2 2]]",
		"unit m\nlet p(x) = x * 1[m^2]":                            "[[1 1]] [[0 2]]",
		"unit m\nlet p(x) = 1[m^2] / x":                            "[[1 -1]] [[0 2]]",
		"unit m\nlet p(x) = root(x * 1[m])":                        "[[2 1]] [[1 1]]",
		"unit m\nlet p(x) = root(x * 1[m^-1])":                     "[[2 1]] [[1 0]]",
		"unit m\nlet p(x) = root(x) * 5[m]":                        "[[2 1]] [[0 1]]",
		"unit m\nlet p(x) = x * 0^2 * 1[m^3]":                      "[[1 1] [0 2]] [[0 1]]",
		"unit m\nlet p(x, y) = if x^2 * 1[m] < y^3 then 1 else 2":  "[[3 2 0]] [[1 1 0]]",
		"unit m\nunit s\nlet fall(t) = 5[m s^-2] * t^2":            "[[1 2]] [[0 1] [0 -2]]",
		"unit m\nunit s\nlet c = root(5[m^2 s^-2])":                "[] [[1] [-1]]",
		"unit m\nlet c = root(1[m])":                               "0 error 12",
		"unit m\nlet c = 1[m] + 1":                                 "0 error 12",
		"unit m\nlet c = 1 + 1[m]":                                 "0 error 12",
		"unit m\nlet c = 1[m] - 1[m^2]":                            "0 error 12",
		"unit m\nunit s\nlet c = 1[s] + 1[m]":                      "0 error 12",
		"unit m\nunit s\nlet c = 1[m] + root(1[m^2 s])":            "0 error 12",
		"unit m\nlet c = if 1[m] < 1 then 1 else 2":                "0 error 12",
		"unit m\nlet c = if 1 < 2 then 1[m] else 2":                "0 error 12",
		"unit m\nlet bad(t) = t + t * t + 1[m]":                    "0 error 12",
		"unit m\nlet p(x) = x^2 + 1[m]":                            "0 error 12",
		"unit m\nlet p(x) = x^2 + 1[m^2]":                          "[] [[1 2]]",
		"unit m\nlet p(x, y) = if x^2 < y^2 * 1[m] then 1 else 2":  "0 error 12",
		"unit m\nlet p(x) = if x < 1 then x + 1[m] else 1[m]":      "0 error 12",
		"let sq(x) = x * x\nlet p(x) = sq(x)":                      "[[1 2]] []",
		"let sq(x) = x * x\nlet p(x) = sq(sq(x))":                  "[[1 4]] []",
		"let sq(x) = x * x\nlet p(x) = sq(x) + x":                  "[] []",
		"let sq(x) = x * x\nlet p = sq(0)":                         "[[2]] []",
		"let z = 0\nlet p(x) = x + z":                              "[[1 1]] []",
		"let z = 0\nlet p = z * z":                                 "[[1]] []",
		"let z = 0\nlet p(x, y) = if x < z then z else y":          "[[1 0 0] [0 1 1]] []",
		"let r(x) = root(x)\nlet p(x) = r(x^3)":                    "[[2 3]] []",
		"let r(x) = root(x)\nlet p(x) = r(x) * r(x)":               "[[2 2]] []",
		"unit m\nlet r(x) = root(x)\nlet p = r(1[m])":              "1 error 12",
		"unit m\nlet f(x) = x + 1[m]\nlet p = f(2)":                "1 error 12",
		"unit m\nlet f(x) = x + 1[m]\nlet p = f(2[m])":             "[] [[1]]",
		"unit m\nlet f(x) = x + 1[m]\nlet p(y) = f(y^2 * 1[m^-1])": "[] [[1 1]]",
		"unit m\nlet f(x, y) = x / y\nlet p(y) = f(1[m], y)":       "[[1 -1]] [[0 1]]",
		"unit m\nlet f(x, y) = x / y\nlet p(y) = f(y, 1[m])":       "[[1 1]] [[0 -1]]",
		"let c = 1\nunit m\nlet d = 1[m] * c":                      "[] [[1]]",
	} {
		if got := lastType(t, lines); got != want {
			t.Errorf("%q %v, not %v", lines, got, want)
		}
	}
}

// zeros is a sum of so many free zeros.
func zeros(n int) string { return "0" + strings.Repeat(" + 0", n-1) }

// P7.5: at most six unknowns.
func TestInferManyUnknowns(t *testing.T) {
	for lines, want := range map[string]string{
		"let c = " + zeros(6):                                       "[[1]] []",
		"let c = " + zeros(7):                                       "0 error 3",
		"let p(x, y, z) = " + zeros(3):                              "[[1 0 0 0] [0 1 0 0] [0 0 1 0] [0 0 0 1]] []",
		"let p(x, y, z) = " + zeros(4):                              "0 error 3",
		"let p(x, y, z) = x * 0 * 0 * 0":                            "[[1 0 0 0] [0 1 0 0] [0 0 1 0] [0 0 0 1]] []",
		"let p(x) = root(root(root(root(root(x)))))":                "[[32 1]] []",
		"let p(x) = root(root(root(root(root(root(x))))))":          "0 error 3",
		"let p = root(root(root(root(root(0)))))":                   "[[1]] []",
		"let p = root(root(root(root(root(root(0))))))":             "0 error 3",
		"let k(x, y, z) = 0\nlet p(x, y) = k(x, y, x)":              "[[1 0 0] [0 1 0] [0 0 1]] []",
		"let k(x, y, z) = 0\nlet p(x, y, z) = k(x, y, x)":           "1 error 3",
		"let k(x, y, z) = 0\nlet p(x) = k(x, x, x) * 0":             "[[1 0] [0 1]] []",
		"let k(x, y, z) = 0\nlet p(x) = k(x, x, x) * 0 * 0":         "1 error 3",
		"let k(x, y) = x\nlet p = k(k(k(1, 2), 3), 4)":              "[] []",
		"let k(x, y) = x\nlet p(x) = k(k(k(1, 2), 3), 4)":           "1 error 3",
		"let c = 1\nlet p(x, y, z) = c + c + c + c * x":             "[[0 1 0 0] [0 0 1 0]] []",
		"let p(x, y, z) = 1 + " + strings.Repeat("x^2 * ", 8) + "1": "[[0 1 0 0] [0 0 1 0]] []",
		"unit m\nlet k(x) = 0\nlet p(x) = k(x) * k(x) * root(x)":    "[[2 0] [0 1]] [[0 0]]",
	} {
		if got := lastType(t, lines); got != want {
			t.Errorf("%q %v, not %v", lines, got, want)
		}
	}
}

// P7.5: numbers from -30 to 30.
func TestInferRange(t *testing.T) {
	for lines, want := range map[string]string{
		"unit m\nlet c = 1[m^3 m^3 m^3 m^3 m^3 m^3 m^3 m^3 m^3 m^3]":                "[] [[30]]",
		"unit m\nlet c = 1[m^3 m^3 m^3 m^3 m^3 m^3 m^3 m^3 m^3 m^3 m]":              "0 error 4",
		"unit m\nlet c = 1[m^-3 m^-3 m^-3 m^-3 m^-3 m^-3 m^-3 m^-3 m^-3 m^-3]":      "[] [[-30]]",
		"unit m\nlet c = 1[m^-3 m^-3 m^-3 m^-3 m^-3 m^-3 m^-3 m^-3 m^-3 m^-3 m^-1]": "0 error 4",
		"unit m\nlet c = 1[m^3 m^3 m^3 m^3 m^3 m^3 m^3 m^3 m^3 m^3 m m^-1]":         "[] [[30]]",
		"unit m\nlet c = 0[m^3 m^3 m^3 m^3 m^3 m^3 m^3 m^3 m^3 m^3 m]":              "0 error 4",
		"unit s\nunit m\nlet c = 1[m^3 m^3 m^3 m^3 m^3 m^3 m^3 m^3 m^3 m^3 m]":      "0 error 4",
		"let p(x) = (x^3)^3 * x^3":                                                "[[1 12]] []",
		"let p(x) = ((x^3)^3 * x)^3":                                              "[[1 30]] []",
		"let p(x) = ((x^3)^3 * x)^-3":                                             "[[1 -30]] []",
		"let p(x) = ((x^3)^3 * x)^3 * x":                                          "0 error 4",
		"let p(x) = ((x^3)^3 * x)^-3 / x":                                         "0 error 4",
		"let p(x) = ((x^3)^3 * x)^3 * x / x":                                      "0 error 4",
		"let p(x) = x^0 * (((x^3)^3 * x)^3 * x)^0":                                "0 error 4",
		"let p(x) = if ((x^3)^3)^3 * x^3 * x < 1 then 1 else 2":                   "0 error 4",
		"let p(x) = if 1 < 2 then 1 else ((x^3)^3)^3 * x^3 * x":                   "0 error 4",
		"let p(x) = ((x^3)^3 * x)^3 + 1 / x":                                      "0 error 4",
		"let p(x) = ((x^3)^3 * x)^3 + x":                                          "[] []",
		"let p(x) = ((x^3)^3 * x)^3 / x + 1 / x":                                  "[] []",
		"let p(x) = if ((x^3)^3 * x)^3 < x^-1 then 1 else 2":                      "0 error 4",
		"let p(x) = if 1 < 2 then x^-1 else ((x^3)^3 * x)^3":                      "0 error 4",
		"let p(x, y) = ((x^3)^3 * x)^3 - 1 / y":                                   "[[1 -30 30]] []",
		"let p(x) = root(((x^3)^3 * x)^3)":                                        "[[1 15]] []",
		"let p(x) = root(((x^3)^3 * x)^3 * x)":                                    "0 error 4",
		"unit m\nlet p(x) = ((x * 1[m^3])^3 * 1[m])^3":                            "[[1 9]] [[0 30]]",
		"unit m\nlet p(x) = ((x * 1[m^3])^3 * 1[m])^3 * 1[m]":                     "0 error 4",
		"unit m\nlet p(x) = ((x * 1[m^3])^3 * 1[m])^3 + 1[m^-1]":                  "0 error 4",
		"unit m\nlet p(x) = ((x * 1[m^3])^3 * 1[m])^-3 + 1[m]":                    "0 error 4",
		"unit m\nlet p(x) = ((x * 1[m^3])^3 * 1[m])^-3 + 1[m^-3]":                 "[] [[-3 -3]]",
		"let p(x) = root(root(root(root(x * x))))":                                "[[8 1]] []",
		"let r(x) = root(root(root(root(root(x)))))\nlet p(x) = r(x)":             "1 error 4",
		"let r(x) = 1/root(root(root(root(x))))^-3\nlet p(x) = r(r(x))":           "[[256 9]] []",
		"let r(x) = (((x^3)^3 * x)^3)^-1\nlet p(x) = r(x)":                        "[[1 -30]] []",
		"let r(x) = ((x^3)^3 * x)^3\nlet p(x) = r(r(x))":                          "[[1 900]] []",
		"let r(x) = ((x^3)^3 * x)^3\nlet p(x) = r(x) * x":                         "[[1 31]] []",
		"let r(x) = ((x^3)^3 * x)^3\nlet p(x) = r(x) * x\nlet q(x) = p(x)":        "2 error 4",
		"let r(x) = root(root(x)) * 0^3\nlet p(x) = r(x)":                         "[[4 1] [0 3]] []",
		"unit m\nlet r(x) = root(root(x)) + 1[m^3]^3\nlet p(x) = r(x)":            "1 error 4",
		"unit m\nlet r(x) = root(root(x)) + 1[m^3]^3\nlet p(x) = r(x * 1[m^3]^2)": "[] [[30 9]]",
	} {
		if got := lastType(t, lines); got != want {
			t.Errorf("%q %v, not %v", lines, got, want)
		}
	}
}

// P7.5: the first definition with an error, and of its errors the one that comes first.
func TestInferErrors(t *testing.T) {
	deep, wide := "((x^3)^3 * x)^3 * x", zeros(7)
	for lines, want := range map[string]string{
		"let a = 1[m] + 1\nlet b = " + wide:                       "0 error 12",
		"let a = 1\nlet b = 1[m] + 1\nlet d = " + wide:            "1 error 12",
		"let a(x) = " + deep + "\nlet b = 1[m] + 1":               "0 error 4",
		"let a = " + wide + "\nlet b = 1[m] + 1":                  "0 error 3",
		"let a(x) = (1 + 1[m]) * (" + deep + ")":                  "0 error 4",
		"let a(x) = (" + deep + ") * (1 + 1[m])":                  "0 error 4",
		"let a(x) = (" + deep + ") * (" + wide + ")":              "0 error 3",
		"let a(x) = (" + wide + ") * (" + deep + ")":              "0 error 3",
		"let a(x) = (" + wide + ") * (1 + 1[m])":                  "0 error 3",
		"let a(x) = (1 + 1[m]) * (" + wide + ")":                  "0 error 3",
		"let a(x) = (1 + 1[m]) * (" + wide + ") * (" + deep + ")": "0 error 3",
		"let a = 1\nlet b = a\nlet d = b\nlet e = d + 1[m]":       "3 error 12",
	} {
		if got := lastType(t, "unit m\n"+lines); got != want {
			t.Errorf("%q %v, not %v", lines, got, want)
		}
	}
	if types, i, err := lang.Infer(api.Source{}); len(types) > 0 || i != 0 || err != api.OK {
		t.Error(types, i, err)
	}
	s := parsed("unit m", "let a = 1", "let b = 1[m] + 1")
	if types, i, err := lang.Infer(s); types != nil || i != 1 || err != api.ErrUnit {
		t.Error(types, i, err)
	}
}

// P7.3 to P7.5
func TestInferAgainstElimination(t *testing.T) {
	found := map[api.Errno]int{}
	for _, s := range several(20, 20000) {
		if len(plainText(s)) > api.MaxText {
			continue
		}
		types, i, err := lang.Infer(s)
		want, j, e := refInfer(s)
		if !slices.EqualFunc(types, want, sameScheme) || i != j || err != e {
			t.Fatalf("%v\n%v %v %v\n%v %v %v", plainText(s), types, i, err, want, j, e)
		}
		found[err]++
	}
	if found[api.OK] < 1000 || found[api.ErrLimit] < 100 || found[api.ErrUnit] < 1000 {
		t.Error(found)
	}
}

// scaled is an expression with n times the dimension of e, for an n from -39 to 39.
func scaled(e api.Expr, n int) api.Expr {
	switch {
	case n < 0:
		return power(scaled(e, -n), -1)
	case n <= 3:
		return power(e, n)
	case n%3 == 0:
		return power(scaled(e, n/3), 3)
	}
	return of(api.ExprMul, power(scaled(e, n/3), 3), power(e, n%3))
}

// heavy makes expressions whose dimensions have large coefficients.
func (m *maker) heavy(depth int) api.Expr {
	if depth == 0 {
		e := num(m.Intn(6) / 5)
		if len(m.s.Units) > 0 && m.Intn(3) == 0 {
			e = num(1, api.Unit{Name: pick(m.Rand, m.s.Units...), Exp: 1})
		}
		if len(m.params) > 0 && m.Intn(4) > 0 {
			e = variable(pick(m.Rand, m.params...))
		}
		return scaled(e, pick(m.Rand, 1, 2, 30, 29, 28, m.Intn(61)-30))
	}
	a, b := m.heavy(m.Intn(depth)), m.heavy(m.Intn(depth))
	switch m.Intn(7) {
	case 0:
		return of(api.ExprRoot, a)
	case 1, 2:
		return of(api.ExprMul, a, b)
	case 3:
		return of(api.ExprDiv, a, b)
	}
	return of(api.ExprAdd, a, b)
}

// P7.5: large coefficients, and what follows from them.
func TestInferLargeNumbers(t *testing.T) {
	m := maker{Rand: rand.New(rand.NewSource(21))}
	found, largest := map[api.Errno]int{}, 0
	for range 30000 {
		m.s = api.Source{Units: []string{"m", "s"}[:m.Intn(3)]}
		m.params = []string{"x", "y", "z"}[:m.Intn(4)]
		m.s.Defs = []api.Def{{Name: "p", Params: m.params, Body: m.heavy(1 + m.Intn(6))}}
		if len(plainText(m.s)) > api.MaxText || depth(m.s.Defs[0].Body) > api.MaxNest {
			continue
		}
		types, i, err := lang.Infer(m.s)
		want, j, e := refInfer(m.s)
		if !slices.EqualFunc(types, want, sameScheme) || i != j || err != e {
			t.Fatalf("%v\n%v %v %v\n%v %v %v", plainText(m.s), types, i, err, want, j, e)
		}
		found[err]++
		for _, t := range types {
			for _, row := range slices.Concat(t.Rows, t.Fixed) {
				largest = max(largest, slices.Max(row), -slices.Min(row))
			}
		}
	}
	if found[api.OK] < 1000 || found[api.ErrRange] < 1000 || found[api.ErrUnit] < 1000 || largest < 10000 {
		t.Error(found, largest)
	}
}

// P7.5: each call of a chain multiplies what there is; six unknowns make numbers with many digits.
func TestInferLongChains(t *testing.T) {
	chain := func(a, b, constant int) api.Source {
		s := parsed("unit m", "let q(x, y) = x + y", "let r(x) = q(x, 0)", "let p(x) = r(r(r(r(r(x)))))")
		equal := of(api.ExprIf, scaled(x, b), scaled(y, a), y, y)
		s.Defs[0].Body = of(api.ExprMul, equal, scaled(num(1, api.Unit{Name: "m", Exp: 1}), constant))
		return s
	}
	types, _, err := lang.Infer(chain(30, 29, 0))
	if want := [][]int{{24300000, 20511149}}; err != api.OK || !reflect.DeepEqual(types[2].Rows, want) {
		t.Error(types, err)
	}
	for _, a := range []int{30, 29, 27, 25, 7, -30} {
		for _, b := range []int{30, 29, 28, 26, -29} {
			for constant := range 31 {
				s := chain(a, b, constant)
				types, i, err := lang.Infer(s)
				want, j, e := refInfer(s)
				if !slices.EqualFunc(types, want, sameScheme) || i != j || err != e {
					t.Fatal(plainText(s), types, i, err, want, j, e)
				}
			}
		}
	}
}

// P7.5: types share no memory, neither with one another nor with those of another call.
func TestInferNewMemory(t *testing.T) {
	s := parsed("unit m", "let f(x) = x * 1[m] * 0^3", "let g(x) = f(x)", "let h(x) = f(x) + 0")
	first, _, err := lang.Infer(s)
	second, _, e := lang.Infer(s)
	for i := range first {
		for _, row := range slices.Concat(first[i].Rows, first[i].Fixed) {
			for j := range row {
				row[j]++
			}
			_ = append(row, 77)
		}
	}
	for i := range first {
		for j, row := range first[i].Rows {
			for k, x := range row {
				if x != second[i].Rows[j][k]+1 {
					t.Error(first, second)
				}
			}
		}
		for k, x := range first[i].Fixed[0] {
			if x != second[i].Fixed[0][k]+1 {
				t.Error(first, second)
			}
		}
	}
	if want, _, _ := refInfer(s); err != api.OK || e != api.OK || !reflect.DeepEqual(second, want) {
		t.Error(second, want)
	}
	if text := need(lang.Print(s)); !reflect.DeepEqual(parsed(text), s) {
		t.Error(s)
	}
}

// P7.6
func TestFits(t *testing.T) {
	type lists = [][]int
	for _, c := range []struct {
		t    api.Scheme
		dims lists
		want bool
	}{
		{api.Scheme{}, nil, true},
		{api.Scheme{Rows: lists{{1}}}, nil, true},
		{api.Scheme{Fixed: lists{{5}}}, lists{{5}}, true},
		{api.Scheme{Fixed: lists{{5}}}, lists{{4}}, false},
		{api.Scheme{Fixed: lists{{5}}}, lists{{-5}}, false},
		{api.Scheme{Rows: lists{{3}}, Fixed: lists{{2}}}, lists{{5}}, true},
		{api.Scheme{Rows: lists{{3}}, Fixed: lists{{2}}}, lists{{-1}}, true},
		{api.Scheme{Rows: lists{{3}}, Fixed: lists{{2}}}, lists{{3}}, false},
		{api.Scheme{Rows: lists{{3}}, Fixed: lists{{-1000}}}, lists{{1000}}, false},
		{api.Scheme{Rows: lists{{4}}, Fixed: lists{{-1000}}}, lists{{1000}}, true},
		{api.Scheme{Params: 1, Rows: lists{{1, 2}}, Fixed: lists{{0, 0}}}, lists{{3, 6}}, true},
		{api.Scheme{Params: 1, Rows: lists{{1, 2}}, Fixed: lists{{0, 0}}}, lists{{-3, -6}}, true},
		{api.Scheme{Params: 1, Rows: lists{{1, 2}}, Fixed: lists{{0, 0}}}, lists{{3, 5}}, false},
		{api.Scheme{Params: 1, Rows: lists{{1, 2}}, Fixed: lists{{0, 0}}}, lists{{0, 1}}, false},
		{api.Scheme{Params: 1, Rows: lists{{1, 2}}, Fixed: lists{{0, 1}, {0, -2}}}, lists{{1, 3}, {2, 2}}, true},
		{api.Scheme{Params: 1, Rows: lists{{1, 2}}, Fixed: lists{{0, 1}, {0, -2}}}, lists{{1, 3}, {2, 3}}, false},
		{api.Scheme{Params: 1, Rows: lists{{1, 2}}, Fixed: lists{{0, 1}, {0, -2}}}, lists{{1, 2}, {2, 2}}, false},
		{api.Scheme{Params: 1, Rows: lists{{2, 1}}, Fixed: lists{{0, 0}}}, lists{{1, 0}}, false},
		{api.Scheme{Params: 1, Rows: lists{{2, 1}}, Fixed: lists{{0, 0}}}, lists{{3, 1}}, false},
		{api.Scheme{Params: 1, Rows: lists{{0, 2}}, Fixed: lists{{1, 1}}}, lists{{1, 5}}, true},
		{api.Scheme{Params: 1, Rows: lists{{0, 2}}, Fixed: lists{{1, 1}}}, lists{{2, 5}}, false},
		{api.Scheme{Params: 1, Rows: lists{{3, 1}, {0, 2}}, Fixed: lists{{0, 0}}}, lists{{3, 3}}, true},
		{api.Scheme{Params: 1, Rows: lists{{3, 1}, {0, 2}}, Fixed: lists{{0, 0}}}, lists{{3, 2}}, false},
		{api.Scheme{Params: 3, Rows: lists{{1, 1000, 1000, 1000}}, Fixed: lists{{-1000, 0, 0, 0}}}, lists{{1000, 0, 0, 0}}, false},
		{api.Scheme{Params: 3, Rows: lists{{1, 0, 0, -1000}, {0, 1, 0, -1000}, {0, 0, 1, 1000}}, Fixed: lists{{0, 0, 0, 0}}},
			lists{{-1000, -1, 1000, 1000}}, false},
		{api.Scheme{Params: 3, Rows: lists{{1, 0, 0, -1000}, {0, 1, 0, -1000}, {0, 0, 1, 1000}}, Fixed: lists{{0, 0, 0, 0}}},
			lists{{-1000, -1, -1000, 1000}}, true},
	} {
		if is, err := lang.Fits(c.t, len(c.t.Fixed), c.dims); is != c.want || err != api.OK {
			t.Error(c, is, err)
		}
	}
}

// P7.6
func TestFitsArguments(t *testing.T) {
	type lists = [][]int
	for _, c := range []struct {
		t     api.Scheme
		units int
		dims  lists
	}{
		{api.Scheme{Params: -1}, 0, nil},
		{api.Scheme{Params: math.MinInt}, 0, nil},
		{api.Scheme{Params: math.MaxInt}, 0, nil},
		{api.Scheme{Params: 4}, 0, nil},
		{api.Scheme{Params: 4, Rows: lists{{1, 1, 1, 1, 1}}, Fixed: lists{{0, 0, 0, 0, 0}}}, 1, lists{{0, 0, 0, 0, 0}}},
		{api.Scheme{Params: -1, Rows: lists{{}}}, 0, nil},
		{api.Scheme{}, -1, nil},
		{api.Scheme{}, math.MinInt, nil},
		{api.Scheme{}, 1, nil},
		{api.Scheme{Fixed: lists{{1}}}, 1, nil},
		{api.Scheme{Fixed: lists{{1}}}, 0, nil},
		{api.Scheme{Fixed: lists{{1}}}, 0, lists{{1}}},
		{api.Scheme{Fixed: lists{{1}, {1}}}, 1, lists{{1}}},
		{api.Scheme{Fixed: lists{{1}}}, 1, lists{{1}, {1}}},
		{api.Scheme{Fixed: lists{{1}}}, 2, lists{{1}, {1}}},
		{api.Scheme{}, 0, lists{{1}}},
		{api.Scheme{Fixed: lists{{1}, {1}, {1}, {1}, {1}}}, 5, lists{{1}, {1}, {1}, {1}, {1}}},
		{api.Scheme{Fixed: lists{{}}}, 1, lists{{1}}},
		{api.Scheme{Fixed: lists{{1, 1}}}, 1, lists{{1}}},
		{api.Scheme{Fixed: lists{{1}}}, 1, lists{{}}},
		{api.Scheme{Fixed: lists{{1}}}, 1, lists{{1, 1}}},
		{api.Scheme{Fixed: lists{{1001}}}, 1, lists{{1}}},
		{api.Scheme{Fixed: lists{{-1001}}}, 1, lists{{1}}},
		{api.Scheme{Fixed: lists{{math.MinInt}}}, 1, lists{{math.MaxInt}}},
		{api.Scheme{Fixed: lists{{1}}}, 1, lists{{1001}}},
		{api.Scheme{Fixed: lists{{1}}}, 1, lists{{-1001}}},
		{api.Scheme{Fixed: lists{{1}, {1}}}, 2, lists{{2}, {1001}}},
		{api.Scheme{Fixed: lists{{1}, {1001}}}, 2, lists{{2}, {1}}},
		{api.Scheme{Rows: lists{{0}}}, 0, nil},
		{api.Scheme{Rows: lists{{-1}}}, 0, nil},
		{api.Scheme{Rows: lists{{1001}}}, 0, nil},
		{api.Scheme{Rows: lists{{math.MinInt}}}, 0, nil},
		{api.Scheme{Rows: lists{{1}, {1}}}, 0, nil},
		{api.Scheme{Rows: lists{{1}, {2}}}, 0, nil},
		{api.Scheme{Params: 1, Rows: lists{{1, 0}, {2, 0}, {0, 1}}}, 0, nil},
		{api.Scheme{Rows: lists{{}}}, 0, nil},
		{api.Scheme{Rows: lists{{1, 1}}}, 0, nil},
		{api.Scheme{Params: 1, Rows: lists{{1}}}, 0, nil},
		{api.Scheme{Params: 1, Rows: lists{{1, 0}, {0}}}, 0, nil},
		{api.Scheme{Params: 1, Rows: lists{{0, 1}, {1, 0}}}, 0, nil},
		{api.Scheme{Params: 1, Rows: lists{{1, 0}, {1, 1}}}, 0, nil},
		{api.Scheme{Params: 1, Rows: lists{{1, 0}, {0, 0}}}, 0, nil},
		{api.Scheme{Params: 1, Rows: lists{{1, 2}, {0, 2}}}, 0, nil},
		{api.Scheme{Params: 1, Rows: lists{{1, -1}, {0, 2}}}, 0, nil},
		{api.Scheme{Params: 1, Rows: lists{{1, 0}, {0, -2}}}, 0, nil},
		{api.Scheme{Params: 1, Rows: lists{{1, 1001}}}, 0, nil},
		{api.Scheme{Params: 1, Rows: lists{{1, -1001}}}, 0, nil},
		{api.Scheme{Params: 1, Rows: lists{{1, 0}, {0, 1}, {0, 0}}}, 0, nil},
		{api.Scheme{Params: 2, Rows: lists{{1, 0, 5}, {0, 1, 5}, {0, 0, 5}}}, 0, nil},
		{api.Scheme{Params: 2, Rows: lists{{1, 0, 5}, {0, 1, 4}, {0, 0, 5}}}, 0, nil},
		{api.Scheme{Params: 2, Rows: lists{{2, 3, 0}, {0, 3, 4}}}, 0, nil},
	} {
		if is, err := lang.Fits(c.t, c.units, c.dims); is || err != api.ErrArg {
			t.Error(c, is, err)
		}
	}
}

// P7.6: the limits themselves, and numbers that need not be reduced.
func TestFitsLimits(t *testing.T) {
	type lists = [][]int
	rows := lists{{1000, 999, 0, -1000}, {0, 1000, 999, 1000}, {0, 0, 1000, -1000}}
	s := api.Scheme{Params: 3, Rows: rows, Fixed: slices.Repeat(lists{{-1000, -1000, -1000, -1000}}, 4)}
	if is, err := lang.Fits(s, 4, slices.Repeat(lists{{1000, 1000, 1000, 1000}}, 4)); is || err != api.OK {
		t.Error(is, err)
	}
	if is, err := lang.Fits(s, 4, s.Fixed); !is || err != api.OK {
		t.Error(is, err)
	}
	if is, err := lang.Fits(s, 4, slices.Repeat(lists{{0, -1, -1000, -1000}}, 4)); is || err != api.OK {
		t.Error(is, err)
	}
}

// P7.6: the same as by elimination with numbers of any length; the arguments stay as they are.
func TestFitsAgainstElimination(t *testing.T) {
	r := rand.New(rand.NewSource(22))
	found := map[bool]int{}
	for range 20000 {
		params, limit := r.Intn(4), pick(r, 2, 5, 30, 1000)
		vector := func() []int {
			v := make([]int, params+1)
			for j := range v {
				v[j] = r.Intn(2*limit+1) - limit
			}
			return v
		}
		var rows [][]int
		for range r.Intn(params + 2) {
			rows = append(rows, vector())
		}
		s := api.Scheme{Params: params}
		for _, row := range normalForm(many(rows), params+1) {
			s.Rows = append(s.Rows, ints(row))
		}
		var dims [][]int
		want := true
		for range r.Intn(5) {
			fixed, dim := vector(), vector()
			if r.Intn(8) > 0 {
				copy(dim, fixed)
				for _, row := range s.Rows {
					k := r.Intn(3) - 1
					for j := range dim {
						dim[j] += k * row[j]
					}
				}
			}
			s.Fixed, dims = append(s.Fixed, fixed), append(dims, dim)
			apart := wholes(dim)
			subtract(apart, wholes(fixed), whole(1))
			want = want && contains(many(s.Rows), apart)
		}
		outside := func(v []int) bool { return slices.Max(v) > 1000 || slices.Min(v) < -1000 }
		if slices.ContainsFunc(slices.Concat(s.Rows, s.Fixed, dims), outside) {
			continue
		}
		before := fmt.Sprint(s, dims)
		if is, err := lang.Fits(s, len(dims), dims); is != want || err != api.OK || fmt.Sprint(s, dims) != before {
			t.Fatal(s, dims, is, err)
		}
		found[want]++
	}
	if found[true] < 1000 || found[false] < 1000 {
		t.Error(found)
	}
}

func many(rows [][]int) [][]*big.Int {
	var list [][]*big.Int
	for _, row := range rows {
		list = append(list, wholes(row))
	}
	return list
}
