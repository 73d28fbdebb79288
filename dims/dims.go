// Package dims computes with dimensions that are not known yet: forms in unknowns, the equations between them, and the
// types of functions that follow from these. Recipes and their machine code share it.
package dims

import (
	"slices"

	"tinplate/api"
	"tinplate/linear"
)

// A Form is a dimension: for each unit the sum of the unknowns, each times its coefficient, and of the unit's constant.
// The zero Form has no dimension.
type Form struct {
	coefs  [api.MaxWidth]int
	consts [api.MaxUnits]int
}

// plus returns f + k*g.
func (f Form) plus(k int, g Form) Form {
	for i, x := range g.coefs {
		f.coefs[i] += k * x
	}
	for u, x := range g.consts {
		f.consts[u] += k * x
	}
	return f
}

func (f Form) inRange() bool {
	outside := func(x int) bool { return x < -api.MaxEntry || x > api.MaxEntry }
	return !slices.ContainsFunc(f.coefs[:], outside) && !slices.ContainsFunc(f.consts[:], outside)
}

// A System has the unknowns of a function, first its parameters and then its free choices, and the equations that they
// must satisfy. Its errors wait for Type, as one that comes first there may be found last.
type System struct {
	params, units int
	unknowns      int
	equations     []Form // each of these must be 0
	beyond        bool   // whether a number was out of its range
}

// New makes the system of a function with so many parameters, for so many units.
func New(params, units int) *System {
	return &System{params: params, units: units, unknowns: params}
}

// Param returns the form of a parameter.
func (s *System) Param(i int) Form { return unknown(i) }

// Choice returns the form of a new free choice.
func (s *System) Choice() Form {
	s.unknowns++
	return unknown(s.unknowns - 1)
}

// unknown returns the form of an unknown; it is of no account for those of which a system must not have so many.
func unknown(i int) Form {
	var f Form
	if i < len(f.coefs) {
		f.coefs[i] = 1
	}
	return f
}

// Exponents returns, for each of the units, the sum of its exponents in a list: the dimension of a number that has these.
func Exponents(units []string, list []api.Unit) []int {
	sums := make([]int, len(units))
	for _, unit := range list {
		sums[slices.Index(units, unit.Name)] += unit.Exp
	}
	return sums
}

// Number returns the form of the number n with an exponent for each unit: that of a 0 without any is a free choice.
func (s *System) Number(n int, exponents []int) Form {
	if n == 0 && all(exponents, isZero) {
		return s.Choice()
	}
	return s.Constant(exponents)
}

// Constant returns the form that has an exponent for each unit.
func (s *System) Constant(exponents []int) Form {
	var f Form
	copy(f.consts[:], exponents)
	return s.checked(f)
}

// Plus returns the form f + k*g, for a k from -3 to 3.
func (s *System) Plus(f Form, k int, g Form) Form { return s.checked(f.plus(k, g)) }

// Root returns the form of a root: a free choice, twice which must be f.
func (s *System) Root(f Form) Form {
	root := s.Choice()
	s.Equate(f, unknowns{root}.sum(2))
	return root
}

// Call returns the form of a call's result, for a function of this type with as many arguments.
func (s *System) Call(t api.Scheme, args []Form) Form {
	var choices unknowns
	for range t.Rows {
		choices = append(choices, s.Choice())
	}
	for i, arg := range args {
		s.Equate(arg, choices.instance(t, i))
	}
	return s.checked(choices.instance(t, t.Params))
}

// Unknowns are the forms of some unknowns.
type unknowns []Form

// sum returns the sum of the unknowns, each times its number.
func (l unknowns) sum(numbers ...int) Form {
	var f Form
	for i, k := range numbers {
		f = f.plus(k, l[i])
	}
	return f
}

// instance returns the form that a type gives to a parameter or the result, with these choices for its rows.
func (l unknowns) instance(t api.Scheme, column int) Form {
	var numbers []int
	for _, row := range t.Rows {
		numbers = append(numbers, row[column])
	}
	f := l.sum(numbers...)
	for u, fixed := range t.Fixed {
		f.consts[u] = fixed[column]
	}
	return f
}

// Equate adds the equation that two forms are the same.
func (s *System) Equate(f, g Form) {
	s.equations = append(s.equations, s.checked(f.plus(-1, g)))
}

// checked notes whether a form is out of range, and keeps numbers small if it is: the system has its error then.
func (s *System) checked(f Form) Form {
	if !f.inRange() {
		s.beyond = true
		return Form{}
	}
	return f
}

// Type returns the type of the function whose result has this form: ErrLimit if there are too many unknowns, ErrRange if
// a number was out of its range, ErrUnit if the equations have no solution.
func (s *System) Type(result Form) (api.Scheme, api.Errno) {
	if s.unknowns > api.MaxWidth {
		return api.Scheme{}, api.ErrLimit
	}
	if s.beyond {
		return api.Scheme{}, api.ErrRange
	}
	t := api.Scheme{Params: s.params}
	equations, kernel := s.independent()
	rows, step := s.rows(kernel, result)
	t.Rows = rows
	for u := range s.units {
		x, ok := s.solution(equations, u)
		if !ok {
			return api.Scheme{}, api.ErrUnit
		}
		value := dot(result.coefs, x) + result.consts[u]
		t.Fixed = append(t.Fixed, append(slices.Clone(x[:s.params]), modulo(value, step)))
	}
	return t, api.OK
}

// width is the number of unknowns as package linear has it, where there is always one.
func (s *System) width() int { return max(1, s.unknowns) }

// independent returns equations from which the coefficients of all others follow, and the basis of their kernel.
func (s *System) independent() ([]Form, [][]int) {
	var list []Form
	kernel, _ := linear.Kernel(nil, s.width())
	for _, e := range s.equations {
		holds := func(x []int) bool { return dot(e.coefs, x) == 0 }
		if !all(kernel, holds) {
			list = append(list, e)
			kernel, _ = linear.Kernel(s.coefficients(list), s.width())
		}
	}
	return list, kernel
}

func all[T any](list []T, holds func(T) bool) bool {
	return !slices.ContainsFunc(list, func(x T) bool { return !holds(x) })
}

func isZero(n int) bool { return n == 0 }

func (s *System) coefficients(equations []Form) [][]int {
	var rows [][]int
	for _, e := range equations {
		rows = append(rows, slices.Clone(e.coefs[:s.width()]))
	}
	return rows
}

// rows returns the basis of the lattice of what the parameters and the result may be, and its pivot for the result, 0 if
// there is none.
//
// The kernel is in Hermite normal form with the parameters first. So, of its vectors, the parts for the parameters that
// are not 0 are in that form, too; and where the parameters are 0, the result alone is left.
func (s *System) rows(kernel [][]int, result Form) ([][]int, int) {
	var rows [][]int
	step := 0
	for _, x := range kernel {
		value := dot(result.coefs, x)
		if all(x[:s.params], isZero) {
			step = gcd(step, value)
			continue
		}
		rows = append(rows, append(slices.Clone(x[:s.params]), value))
	}
	for _, row := range rows {
		row[s.params] = modulo(row[s.params], step)
	}
	if step > 0 {
		last := make([]int, s.params+1)
		last[s.params] = step
		rows = append(rows, last)
	}
	return rows, step
}

// solution returns the unknowns that satisfy all equations with the constants of a unit, reduced by the kernel: false
// if there are none. The equations that are given are those of independent.
func (s *System) solution(equations []Form, unit int) ([]int, bool) {
	var right []int
	for _, e := range equations {
		right = append(right, -e.consts[unit])
	}
	x, err := linear.Solve(s.coefficients(equations), right, s.width())
	if err != api.OK {
		return nil, false
	}
	// What the others have on their left side is the same for all solutions.
	return x, all(s.equations, func(e Form) bool { return dot(e.coefs, x)+e.consts[unit] == 0 })
}

func dot(coefs [api.MaxWidth]int, x []int) int {
	sum := 0
	for i, n := range x {
		sum += coefs[i] * n
	}
	return sum
}

func gcd(a, b int) int {
	for b != 0 {
		a, b = b, a%b
	}
	return max(a, -a)
}

// modulo returns the remainder of a division, from 0 on; x itself, if it is by 0.
func modulo(x, by int) int {
	if by == 0 {
		return x
	}
	return (x%by + by) % by
}
