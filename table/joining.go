package table

import (
	"augur/api"
	"augur/frac"
)

// joining is how two are made one when a variable goes: numbers, or the places where they stand.
type joining[N any] struct {
	pair func(a, b N) N
}

func sums() joining[api.Frac] {
	return joining[api.Frac]{pair: frac.Add}
}

func greatest() joining[api.Frac] {
	return joining[api.Frac]{pair: greater}
}

// firstGreatest keeps, of the places of these cells, the one that has the greater number; of like ones the one ahead.
func firstGreatest(cells []api.Frac) joining[int] {
	return joining[int]{pair: func(j, k int) int {
		if frac.Cmp(cells[j], cells[k]) < 0 {
			return k
		}
		return j
	}}
}

func greater(a, b api.Frac) api.Frac {
	if frac.Cmp(a, b) < 0 {
		return b
	}
	return a
}

// join is what is left of so many, at least one, told from 0 on.
func join[N any](how joining[N], count int, tell func(i int) N) N {
	left := tell(0)
	for i := range count - 1 {
		left = how.pair(left, tell(i+1))
	}
	return left
}
