package line

import "slices"

// number is what the entries of a matrix are. A sum of a number and itself is that number.
type number[T any] interface {
	comparable
	plus(T) T
	times(T) T
	// zero is the number that changes no sum and makes every product zero.
	zero() T
	// one is the number that changes no product.
	one() T
}

// matrix has as many rows as columns. No function changes one.
type matrix[T number[T]] [][]T

func identity[T number[T]](n int) matrix[T] {
	var entry T
	a := make(matrix[T], n)
	for i := range a {
		a[i] = slices.Repeat([]T{entry.zero()}, n)
		a[i][i] = entry.one()
	}
	return a
}

// listOf returns the list of f of every element.
func listOf[From, To any](list []From, f func(From) To) []To {
	result := make([]To, len(list))
	for i, element := range list {
		result[i] = f(element)
	}
	return result
}

// rowsOf returns the rows of f of every entry.
func rowsOf[From, To any](rows [][]From, f func(From) To) [][]To {
	return listOf(rows, func(row []From) []To { return listOf(row, f) })
}

// sum returns the sum of f of every index below n.
func sum[T number[T]](n int, f func(int) T) T {
	var total T
	total = total.zero()
	for k := range n {
		total = total.plus(f(k))
	}
	return total
}

func (a matrix[T]) plus(b matrix[T]) matrix[T] {
	c := make(matrix[T], len(a))
	for i, row := range a {
		c[i] = make([]T, len(row))
		for j := range row {
			c[i][j] = a[i][j].plus(b[i][j])
		}
	}
	return c
}

func (a matrix[T]) times(b matrix[T]) matrix[T] {
	c := make(matrix[T], len(a))
	for i, row := range a {
		c[i] = make([]T, len(row))
		for j := range row {
			c[i][j] = sum(len(row), func(k int) T { return row[k].times(b[k][j]) })
		}
	}
	return c
}

// of returns a applied to the vector x.
func (a matrix[T]) of(x []T) []T {
	y := make([]T, len(a))
	for i, row := range a {
		y[i] = sum(len(row), func(j int) T { return row[j].times(x[j]) })
	}
	return y
}

func (a matrix[T]) power(k int) matrix[T] {
	result := identity[T](len(a))
	for square := a; k > 0; k /= 2 {
		if k%2 == 1 {
			result = result.times(square)
		}
		square = square.times(square)
	}
	return result
}

// closure returns the sum of the powers from 0 to the one below the size. These are all that matter if no cycle adds
// anything to a walk, because a walk that goes through no vertex twice has no more arcs.
func (a matrix[T]) closure() matrix[T] {
	return identity[T](len(a)).plus(a).power(len(a) - 1)
}

// trace returns the sum of the entries on the diagonal.
func (a matrix[T]) trace() T { return sum(len(a), func(i int) T { return a[i][i] }) }

func (a matrix[T]) equals(b matrix[T]) bool { return slices.EqualFunc(a, b, slices.Equal[[]T]) }
