// Package numbers calculates as programs do: with numbers from 0 to Width - 1.
package numbers

import "doppelganger/api"

// Calculate returns what an Add, Sub, Mul, Equal or Less makes of two numbers of programs.
func Calculate(kind, left, right int) int {
	switch kind {
	case api.Add:
		return (left + right) % api.Width
	case api.Sub:
		return (left - right + api.Width) % api.Width
	case api.Mul:
		return left * right % api.Width
	case api.Equal:
		return truth(left == right)
	}
	return truth(left < right)
}

func truth(so bool) int {
	if so {
		return 1
	}
	return 0
}
