// Package ratio computes with the rational numbers of recipes: those in lowest terms whose numerator and denominator
// are at most api.MaxValue. Recipes and the machine that runs them share it.
package ratio

import (
	"slices"
	"sort"

	"tinplate/api"
)

// Valid reports whether r is in lowest terms and within the limits.
func Valid(r api.Ratio) bool {
	return fits(r) && gcd(r.Num, r.Den) == 1
}

// AreValid reports whether all of a list are valid.
func AreValid(list []api.Ratio) bool {
	return !slices.ContainsFunc(list, func(r api.Ratio) bool { return !Valid(r) })
}

func fits(r api.Ratio) bool {
	return -api.MaxValue <= r.Num && r.Num <= api.MaxValue && 1 <= r.Den && r.Den <= api.MaxValue
}

func gcd(a, b int) int {
	for b != 0 {
		a, b = b, a%b
	}
	return max(a, -a)
}

// lowest returns num/den: ErrRange if it is beyond the limits. den may be below 0, but not 0.
func lowest(num, den int) (api.Ratio, api.Errno) {
	g := gcd(num, den)
	if den < 0 {
		g = -g
	}
	r := api.Ratio{Num: num / g, Den: den / g}
	if !fits(r) {
		return api.Ratio{}, api.ErrRange
	}
	return r, api.OK
}

// Add returns a + b.
func Add(a, b api.Ratio) (api.Ratio, api.Errno) {
	// Only equal denominators could make both products 2^62, whose sum is no int, and those have a common divisor.
	g := gcd(a.Den, b.Den)
	return lowest(a.Num*(b.Den/g)+b.Num*(a.Den/g), a.Den/g*b.Den)
}

// Sub returns a - b.
func Sub(a, b api.Ratio) (api.Ratio, api.Errno) {
	return Add(a, api.Ratio{Num: -b.Num, Den: b.Den})
}

// Mul returns a * b.
func Mul(a, b api.Ratio) (api.Ratio, api.Errno) {
	return lowest(a.Num*b.Num, a.Den*b.Den)
}

// Div returns a / b: ErrZero if b is 0.
func Div(a, b api.Ratio) (api.Ratio, api.Errno) {
	if b.Num == 0 {
		return api.Ratio{}, api.ErrZero
	}
	return lowest(a.Num*b.Den, a.Den*b.Num)
}

// Pow returns a to the power n: ErrZero if a is 0 and n is below 0.
func Pow(a api.Ratio, n int) (api.Ratio, api.Errno) {
	power := api.Ratio{Num: 1, Den: 1}
	if n < 0 {
		inverse, err := Div(power, a)
		if err != api.OK {
			return api.Ratio{}, err
		}
		a, n = inverse, -n
	}
	// Both parts of a power only grow with n: if one of them is too large on the way, it is at the end.
	for range n {
		next, err := Mul(power, a)
		if err != api.OK {
			return api.Ratio{}, err
		}
		power = next
	}
	return power, api.OK
}

// Root returns the number that is at least 0 and whose square is a: ErrRoot if there is none.
func Root(a api.Ratio) (api.Ratio, api.Errno) {
	r := api.Ratio{Num: floorRoot(a.Num), Den: floorRoot(a.Den)}
	if r.Num*r.Num != a.Num || r.Den*r.Den != a.Den {
		return api.Ratio{}, api.ErrRoot
	}
	return r, api.OK
}

// floorRoot returns the greatest number whose square is at most x, if x is from 0 to api.MaxValue.
func floorRoot(x int) int {
	return sort.Search(1<<16, func(r int) bool { return (r+1)*(r+1) > x })
}

// Less reports whether a is below b.
func Less(a, b api.Ratio) bool {
	return a.Num*b.Den < b.Num*a.Den
}
