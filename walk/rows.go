package walk

import (
	"slices"
	"sync"

	"augur/api"
	"augur/frac"
	"augur/net"
	"augur/table"
)

// eachRow is a chain of so many rows, each of which is worked out by a goroutine of its own.
func eachRow(count int, row func(i int) []api.Frac) [][]api.Frac {
	rows := make([][]api.Frac, count)
	var working sync.WaitGroup
	for i := range rows {
		working.Add(1)
		go func() {
			defer working.Done()
			rows[i] = row(i)
		}()
	}
	working.Wait()
	return rows
}

// gibbsRow is how likely each of so many assignments comes behind the i-th one, where v is drawn anew.
func gibbsRow(n api.Net, facts []api.Fact, v, count, i int) []api.Frac {
	sizes, vars := net.Sizes(n), all(n)
	at, _ := table.Where(sizes, vars, i)
	row := slices.Repeat([]api.Frac{frac.Of(0)}, count)
	var likely []api.Frac
	if hasAll(at, facts) {
		likely = anew(n, at, v)
	}
	if len(likely) == 0 {
		row[i] = frac.Of(1)
	}
	for value, f := range likely {
		at[v] = value
		behind, _ := table.Index(sizes, vars, at)
		row[behind] = f
	}
	return row
}

// metropolisRow is how likely each state comes behind i.
func metropolisRow(w []api.Frac, q [][]api.Frac, i int) []api.Frac {
	row := make([]api.Frac, len(q))
	for k := range row {
		if k != i {
			row[k] = goes(w, q, i, k)
		}
	}
	row[i] = frac.Sub(frac.Of(1), frac.Sum(row))
	return row
}

// goes is how likely k comes behind i, another state: as proposed, but not so often that more would go there than may come back.
func goes(w []api.Frac, q [][]api.Frac, i, k int) api.Frac {
	most, e := frac.Div(frac.Mul(w[k], q[k][i]), w[i])
	if e == api.OK && frac.Cmp(most, q[i][k]) < 0 {
		return most
	}
	return frac.Canon(q[i][k])
}

func isBelow(f api.Frac) bool {
	return frac.Cmp(f, frac.Of(0)) < 0
}
