// Package stick: any number as a stick: see DOC.md, chapter 1.
package stick

import "math"

// ends is how far an axis goes each way.
const ends = 64

// Clean answers x as a number within -1 to 1 that is neither a NaN nor -0.
func Clean(x float64) float64 {
	switch {
	case math.IsNaN(x), x == 0: // -0 is equal to 0, too: its sign goes here
		return 0
	case x > 1:
		return 1
	case x < -1:
		return -1
	}
	return x
}

// Axis answers where x is on an axis of -64 to 64 with a dead zone about its middle.
func Axis(x, dead float64) int {
	a := Clean(x)
	n := reach(math.Abs(a), max(Clean(dead), 0))
	if a < 0 {
		return -n
	}
	return n
}

// reach answers how far from the middle an amount is, beyond a dead zone; both are within 0 to 1.
func reach(amount, dead float64) int {
	// The dead zone comes first: one of 1 has nothing beyond it, and 1 - dead divides below.
	if amount <= dead {
		return 0
	}
	if amount == 1 {
		return ends
	}
	part := (amount - dead) / (1 - dead)
	return int(math.RoundToEven(part * ends))
}

// Float answers the place n of an axis as a number within -1 to 1.
func Float(n int) float64 {
	return float64(min(max(n, -ends), ends)) / ends
}

// Mix answers two sticks as one.
func Mix(a, b float64) float64 {
	return Clean(Clean(a) + Clean(b))
}
