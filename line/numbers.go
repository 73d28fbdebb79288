package line

import "tinplate/api"

// span is an amount of time, or Never: a sum of two is the later of them, a product one after the other.
type span int

func (s span) plus(t span) span { return max(s, t) }

func (s span) times(t span) span {
	if s == api.Never || t == api.Never {
		return api.Never
	}
	return s + t
}

func (span) zero() span { return api.Never }

func (span) one() span { return 0 }

// way tells whether there is a walk: a sum of two is either of them, a product one after the other.
type way bool

func (w way) plus(v way) way { return w || v }

func (w way) times(v way) way { return w && v }

func (way) zero() way { return false }

func (way) one() way { return true }

func toSpan(n int) span { return span(n) }

func toInt(s span) int { return int(s) }

// gcd is never negative; that of 0 and a number is the number.
func gcd(a, b int) int {
	for b != 0 {
		a, b = b, a%b
	}
	return max(a, -a)
}

func lcm(a, b int) int { return a / gcd(a, b) * b }
