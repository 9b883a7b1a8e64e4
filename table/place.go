package table

import (
	"slices"

	"augur/api"
)

func maySize(sizes []int) bool {
	if len(sizes) < 1 || len(sizes) > api.MaxVars {
		return false
	}
	for _, size := range sizes {
		if size < 1 || size > api.MaxSize {
			return false
		}
	}
	return true
}

// rises says whether the list rises, of numbers from 0 on that are below count.
func rises(l []int, count int) bool {
	least := 0
	for _, v := range l {
		if v < least || v >= count {
			return false
		}
		least = v + 1
	}
	return true
}

func isValue(sizes []int, v, value int) bool {
	return value >= 0 && value < sizes[v]
}

func countOf(sizes, vars []int) int {
	count := 1
	for _, v := range vars {
		count *= sizes[v]
	}
	return count
}

// assignment is the one that stands at a place that is there.
func assignment(sizes, vars []int, place int) []int {
	at := make([]int, len(vars))
	for i, v := range slices.Backward(vars) {
		at[i] = place % sizes[v]
		place /= sizes[v]
	}
	return at
}

func together(a, b []int) []int {
	l := slices.Concat(a, b)
	slices.Sort(l)
	return slices.Compact(l)
}

func without(vars []int, v int) []int {
	return slices.DeleteFunc(slices.Clone(vars), func(u int) bool { return u == v })
}

// steps is, of each variable, how far its next value stands behind in a table of vars: 0, if it is none of them.
func steps(sizes, vars []int) []int {
	step := 1
	l := make([]int, len(sizes))
	for _, v := range slices.Backward(vars) {
		l[v] = step
		step *= sizes[v]
	}
	return l
}

// standing tells where an assignment of vars, known by its place, stands in a table of other; what vars lack of other is 0 there.
func standing(sizes, vars, other []int) func(place int) int {
	step := steps(sizes, other)
	return func(place int) int {
		there := 0
		for _, v := range slices.Backward(vars) {
			there += place % sizes[v] * step[v]
			place /= sizes[v]
		}
		return there
	}
}

// standingWith tells where an assignment of vars stands in a table of other, if v, which vars lack, has a value.
// (Where other lacks v too, its value moves nothing.)
func standingWith(sizes, vars, other []int, v int) func(place, value int) int {
	start, step := standing(sizes, vars, other), steps(sizes, other)[v]
	return func(place, value int) int {
		return start(place) + value*step
	}
}
