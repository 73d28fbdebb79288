package works

import "math/bits"

// A set is a set of lots, as bits: there are more bits than lots.
type set uint64

const everything = ^set(0)

func setOf(numbers ...int) set {
	var s set
	for _, no := range numbers {
		s |= 1 << no
	}
	return s
}

func (s set) has(no int) bool { return s&setOf(no) != 0 }

// isBelow reports whether all lots of s have lower numbers.
func (s set) isBelow(no int) bool { return s < setOf(no) }

// list returns the numbers of the lots, ascending.
func (s set) list() []int {
	var numbers []int
	for ; s != 0; s &= s - 1 {
		numbers = append(numbers, bits.TrailingZeros64(uint64(s)))
	}
	return numbers
}
