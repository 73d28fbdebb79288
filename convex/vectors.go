package convex

import (
	"cmp"

	"tinplate/api"
)

// far reports whether v is outside the limits of coordinates.
func far(v api.Vec) bool {
	return v.X < -api.MaxCoord || v.X > api.MaxCoord || v.Y < -api.MaxCoord || v.Y > api.MaxCoord
}

func plus(a, b api.Vec) api.Vec { return api.Vec{X: a.X + b.X, Y: a.Y + b.Y} }

func minus(a, b api.Vec) api.Vec { return api.Vec{X: a.X - b.X, Y: a.Y - b.Y} }

func opposite(v api.Vec) api.Vec { return api.Vec{X: -v.X, Y: -v.Y} }

func dot(a, b api.Vec) int { return a.X*b.X + a.Y*b.Y }

// cross is positive if b is to the left of a, and zero if both are on one line.
func cross(a, b api.Vec) int { return a.X*b.Y - a.Y*b.X }

// byHeight compares points: lower ones come first, of the same height those to the left.
func byHeight(a, b api.Vec) int { return cmp.Or(cmp.Compare(a.Y, b.Y), cmp.Compare(a.X, b.X)) }

// byAngle compares directions by the angle from that of (1, 0), counterclockwise, up to a full turn.
func byAngle(a, b api.Vec) int {
	if sinks(a) != sinks(b) {
		if sinks(a) {
			return 1
		}
		return -1
	}
	return cmp.Compare(0, cross(a, b))
}

// sinks reports whether v has an angle of half a turn or more.
func sinks(v api.Vec) bool { return byHeight(v, api.Vec{}) < 0 }

// divisor returns the greatest common divisor of two integers, not both zero.
func divisor(a, b int) int {
	for b != 0 {
		a, b = b, a%b
	}
	return max(a, -a)
}
