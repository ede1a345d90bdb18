package tests

import (
	"math"
	"slices"
)

// extremes are numbers that no argument of the package may be.
var extremes = []int{math.MinInt, math.MinInt + 1, -1, math.MaxInt - 1, math.MaxInt}

// same reports whether a list has exactly the numbers; nil and empty are alike.
func same(list []int, numbers ...int) bool {
	return slices.Equal(list, numbers)
}

// sum adds the numbers up.
func sum(list []int) int {
	total := 0
	for _, n := range list {
		total += n
	}
	return total
}

// most returns the greatest of the numbers, 0 for none.
func most(list []int) int {
	return slices.Max(append([]int{0}, list...))
}

// reversed returns the numbers the other way round.
func reversed(list []int) []int {
	other := slices.Clone(list)
	slices.Reverse(other)
	return other
}

// power returns the base times itself so many times.
func power(base int, times int) int {
	product := 1
	for range times {
		product *= base
	}
	return product
}

// samples returns a function that gives numbers in 0..limit-1 by a fixed rule,
// the same ones in every run.
func samples() func(limit int) int {
	state := uint64(20)
	return func(limit int) int {
		state = state*6364136223846793005 + 1442695040888963407
		return int(state>>33) % limit
	}
}
