package chain

import (
	"augur/api"
	"augur/frac"
)

// comesTo says of each state to which states it comes, in any number of steps, also in none.
func comesTo(m [][]api.Frac) [][]bool {
	nought := frac.Of(0)
	comes := make([][]bool, len(m))
	for i, row := range m {
		comes[i] = make([]bool, len(m))
		for j, f := range row {
			comes[i][j] = i == j || frac.Cmp(f, nought) > 0
		}
	}
	// One state more each round that ways may lead through.
	for through := range m {
		for i := range m {
			for j := range m {
				comes[i][j] = comes[i][j] || comes[i][through] && comes[through][j]
			}
		}
	}
	return comes
}

// classOf is the class of a state; does it stay there?
func classOf(comes [][]bool, i int) (class []int, stays bool) {
	stays = true
	for j := range comes {
		switch {
		case comes[i][j] && comes[j][i]:
			class = append(class, j)
		case comes[i][j]:
			stays = false
		}
	}
	return class, stays
}

// comingTo are the states that are none of to, but come to one of them.
func comingTo(comes [][]bool, to []int) []int {
	var l []int
	for i := range comes {
		comesThere, isThere := false, false
		for _, j := range to {
			comesThere = comesThere || comes[i][j]
			isThere = isThere || i == j
		}
		if comesThere && !isThere {
			l = append(l, i)
		}
	}
	return l
}
