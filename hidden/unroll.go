package hidden

import (
	"slices"
	"strconv"

	"augur/api"
	"augur/frac"
)

// Unroll is the net of so many steps.
func Unroll(h api.Hidden, steps int) (api.Net, api.Errno) {
	if e := Check(h); e != api.OK {
		return api.Net{}, e
	}
	if steps < 1 || steps > api.MaxVars/2 {
		return api.Net{}, api.ErrLimit
	}
	var n api.Net
	for t := range steps {
		state, sign := 2*t, 2*t+1
		if t == 0 {
			lay(&n, "s0", nil, [][]api.Frac{h.Start})
		} else {
			lay(&n, numbered("s", t), []int{state - 2}, h.Move)
		}
		lay(&n, numbered("o", t), []int{sign - 1}, h.Show)
	}
	return n, api.OK
}

// lay is one variable more.
func lay(n *api.Net, name string, parents []int, rows [][]api.Frac) {
	x := api.Var{Name: name}
	for value := range rows[0] {
		x.Values = append(x.Values, numbered("v", value))
	}
	lowest := slices.Concat(rows...)
	for i, f := range lowest {
		lowest[i] = frac.Canon(f)
	}
	n.Vars, n.Parents, n.Rows = append(n.Vars, x), append(n.Parents, parents), append(n.Rows, lowest)
}

func numbered(word string, number int) string {
	return word + strconv.Itoa(number)
}
