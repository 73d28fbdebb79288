package ratio

import (
	"slices"

	"tinplate/api"
)

// Scales are the sizes of units. Products of their powers may have thousands of digits before they are reduced, so each
// scale is kept as a product of powers of bases of which no two have a common divisor: these cancel by their exponents.
type Scales struct {
	bases  []int
	powers [][]int // the exponent of each base, for each scale
}

// AreSizes reports whether scales can be made of a list: whether all numbers are valid, and above 0.
func AreSizes(list []api.Ratio) bool {
	return AreValid(list) && !slices.ContainsFunc(list, func(r api.Ratio) bool { return r.Num <= 0 })
}

// NewScales makes scales of valid numbers above 0.
func NewScales(sizes []api.Ratio) Scales {
	var s Scales
	for _, size := range sizes {
		s.bases = refine(refine(s.bases, size.Num), size.Den)
	}
	for _, size := range sizes {
		powers := make([]int, len(s.bases))
		for i, base := range s.bases {
			powers[i] = multiplicity(size.Num, base) - multiplicity(size.Den, base)
		}
		s.powers = append(s.powers, powers)
	}
	return s
}

// refine returns bases, so that x and all of the bases are products of their powers. It changes bases.
func refine(bases []int, x int) []int {
	if x == 1 {
		return bases
	}
	for i, base := range bases {
		g := gcd(base, x)
		if g == 1 {
			continue
		}
		bases = slices.Delete(bases, i, i+1)
		for _, part := range [...]int{g, base / g, x / g} {
			bases = refine(bases, part)
		}
		return bases
	}
	return append(bases, x)
}

// multiplicity returns how often x can be divided by the base.
func multiplicity(x, base int) int {
	n := 0
	for x%base == 0 {
		x /= base
		n++
	}
	return n
}

// Measure returns the number n, from 0 to 9999999, times the scales raised to the exponents: ErrRange if one of these is
// not from -MaxEntry to MaxEntry, or the product is beyond the limits.
func (s Scales) Measure(n int, exponents []int) (api.Ratio, api.Errno) {
	for _, e := range exponents {
		if e < -api.MaxEntry || e > api.MaxEntry {
			return api.Ratio{}, api.ErrRange
		}
	}
	if n == 0 {
		return api.Ratio{Num: 0, Den: 1}, api.OK
	}
	num, den := n, 1
	for i, base := range s.bases {
		e := 0
		for u, exponent := range exponents {
			e += exponent * s.powers[u][i]
		}
		// The bases do not cancel one another, and n takes no more than a divisor of n away: so what exceeds n times
		// the limit exceeds the limit in lowest terms, too.
		if !raise(&num, base, e, n*api.MaxValue) || !raise(&den, base, -e, n*api.MaxValue) {
			return api.Ratio{}, api.ErrRange
		}
	}
	return lowest(num, den)
}

// raise multiplies x by the base to the power e, if that is above 0: false if it would exceed the limit.
func raise(x *int, base, e, limit int) bool {
	for range e {
		if *x > limit/base {
			return false
		}
		*x *= base
	}
	return true
}
