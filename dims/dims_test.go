package dims_test

import (
	"fmt"
	"testing"

	"tinplate/api"
	"tinplate/dims"
)

// typeOf is the type of a system, in words, that a function makes of its form of the result.
func typeOf(params, units int, result func(s *dims.System) dims.Form) string {
	s := dims.New(params, units)
	t, err := s.Type(result(s))
	if err != api.OK {
		return fmt.Sprint(t.Params, t.Rows, t.Fixed, " error ", err)
	}
	return fmt.Sprint(t.Params, t.Rows, t.Fixed)
}

// P7.4, P7.5
func TestTypes(t *testing.T) {
	type system = *dims.System
	for want, got := range map[string]string{
		"0 [] []":           typeOf(0, 0, func(s system) dims.Form { return dims.Form{} }),
		"0 [] [[0] [0]]":    typeOf(0, 2, func(s system) dims.Form { return dims.Form{} }),
		"0 [] [[3] [-4]]":   typeOf(0, 2, func(s system) dims.Form { return s.Constant([]int{3, -4}) }),
		"0 [[1]] [[0]]":     typeOf(0, 1, func(s system) dims.Form { return s.Choice() }),
		"1 [[1 1]] [[0 0]]": typeOf(1, 1, func(s system) dims.Form { return s.Param(0) }),
		"1 [[2 1]] [[0 0]]": typeOf(1, 1, func(s system) dims.Form { return s.Root(s.Param(0)) }),
		"2 [[1 0 3] [0 1 -2]] [[0 0 0]]": typeOf(2, 1, func(s system) dims.Form {
			return s.Plus(s.Plus(dims.Form{}, 3, s.Param(0)), -2, s.Param(1))
		}),
		"2 [[1 1 1]] [[0 29 0]]": typeOf(2, 1, func(s system) dims.Form {
			s.Equate(s.Param(1), s.Plus(s.Param(0), 1, s.Constant([]int{29})))
			return s.Param(0)
		}),
		"0 [] [] error 12": typeOf(1, 1, func(s system) dims.Form {
			s.Equate(s.Plus(s.Param(0), 1, s.Param(0)), s.Constant([]int{29}))
			return s.Param(0)
		}),
		"1 [[1 7]] [[0 9]]": typeOf(1, 1, func(s system) dims.Form {
			return s.Call(api.Scheme{Params: 1, Rows: [][]int{{1, 7}}, Fixed: [][]int{{0, 9}}}, []dims.Form{s.Param(0)})
		}),
	} {
		if got != want {
			t.Error(got, want)
		}
	}
}

// P7.5: the errors, in their order.
func TestErrors(t *testing.T) {
	many := func(s *dims.System) {
		for range 6 {
			s.Choice()
		}
	}
	beyond := func(s *dims.System) { s.Equate(s.Constant([]int{31}), s.Constant([]int{31})) }
	empty := func(s *dims.System) { s.Equate(s.Constant([]int{1}), dims.Form{}) }
	for _, c := range []struct {
		steps []func(s *dims.System)
		want  api.Errno
	}{
		{nil, api.OK},
		{[]func(s *dims.System){many}, api.ErrLimit},
		{[]func(s *dims.System){beyond}, api.ErrRange},
		{[]func(s *dims.System){empty}, api.ErrUnit},
		{[]func(s *dims.System){empty, beyond}, api.ErrRange},
		{[]func(s *dims.System){beyond, empty}, api.ErrRange},
		{[]func(s *dims.System){empty, beyond, many}, api.ErrLimit},
		{[]func(s *dims.System){many, beyond, empty}, api.ErrLimit},
	} {
		s := dims.New(1, 1)
		for _, step := range c.steps {
			step(s)
		}
		if _, err := s.Type(s.Param(0)); err != c.want {
			t.Error(c.want, err)
		}
	}
}

// P7.3: the dimension of a number, and what a free 0 is.
func TestNumbers(t *testing.T) {
	list := []api.Unit{{Name: "s", Exp: 2}, {Name: "m", Exp: 1}, {Name: "s", Exp: -3}}
	for want, got := range map[string][]int{
		"[1 -1]":  dims.Exponents([]string{"m", "s"}, list),
		"[0 1 0]": dims.Exponents([]string{"a", "m", "b"}, list[1:2]),
		"[0 0]":   dims.Exponents([]string{"m", "s"}, nil),
		"[]":      dims.Exponents(nil, nil),
	} {
		if fmt.Sprint(got) != want {
			t.Error(got, want)
		}
	}
	number := func(n int, exponents ...int) string {
		return typeOf(0, len(exponents), func(s *dims.System) dims.Form { return s.Number(n, exponents) })
	}
	for want, got := range map[string]string{
		"0 [[1]] []": number(0), "0 [[1]] [[0] [0]]": number(0, 0, 0), "0 [] [[0] [1]]": number(0, 0, 1), "0 [] []": number(1),
		"0 [] [[0]]": number(1, 0), "0 [] [[3]]": number(0, 3),
	} {
		if got != want {
			t.Error(got, want)
		}
	}
}
