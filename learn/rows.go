package learn

import (
	"slices"

	"augur/api"
	"augur/frac"
	"augur/table"
)

// noughts are so many as there are numbers in the rows of a variable with these parents.
func noughts(sizes, parents []int, v int) []api.Frac {
	count, _ := table.Count(sizes, parents)
	return slices.Repeat([]api.Frac{frac.Of(0)}, count*sizes[v])
}

// place is where the number of v's value stands in the rows of v, where the variables have the values at.
func place(sizes, parents []int, v int, at []int) int {
	row := 0
	for _, parent := range parents {
		row = row*sizes[parent] + at[parent]
	}
	return row*sizes[v] + at[v]
}

// divided is rows, each number divided by its row's sum; one whose sum is 0 is what stands otherwise in its place.
func divided(rows []api.Frac, size int, otherwise []api.Frac) []api.Frac {
	shares := make([]api.Frac, 0, len(rows))
	for row := range slices.Chunk(rows, size) {
		sum := frac.Sum(row)
		for _, f := range row {
			share, e := frac.Div(f, sum)
			if e != api.OK {
				share = frac.Canon(otherwise[len(shares)])
			}
			shares = append(shares, share)
		}
	}
	return shares
}
