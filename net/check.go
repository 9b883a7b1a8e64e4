package net

import (
	"slices"

	"augur/api"
	"augur/frac"
	"augur/table"
)

// The words that are no names, as texts of nets need them.
const (
	varWord  = "var"
	elseWord = "else"
)

func isLetter(c byte) bool {
	return c >= 'a' && c <= 'z'
}

func isDigit(c byte) bool {
	return c >= '0' && c <= '9'
}

func goesOnWord(c byte) bool {
	return isLetter(c) || isDigit(c) || c == '_'
}

func isName(s string) bool {
	if len(s) < 1 || len(s) > api.MaxName || s == varWord || s == elseWord {
		return false
	}
	for i := range len(s) {
		if !goesOnWord(s[i]) {
			return false
		}
	}
	return isLetter(s[0])
}

func checkNames(names []string) api.Errno {
	for i, name := range names {
		if !isName(name) {
			return api.ErrWord
		}
		if slices.Contains(names[:i], name) {
			return api.ErrDouble
		}
	}
	return api.OK
}

func namesOf(vars []api.Var) []string {
	names := make([]string, len(vars))
	for v, x := range vars {
		names[v] = x.Name
	}
	return names
}

// checkVars goes through all names of variables ahead of the first value.
func checkVars(vars []api.Var) api.Errno {
	if e := checkNames(namesOf(vars)); e != api.OK {
		return e
	}
	for _, x := range vars {
		if len(x.Values) < 1 || len(x.Values) > api.MaxSize {
			return api.ErrLimit
		}
		if e := checkNames(x.Values); e != api.OK {
			return e
		}
	}
	return api.OK
}

// checkRows is for nets whose graph and variables may be.
func checkRows(n api.Net) api.Errno {
	sizes := Sizes(n)
	for v, rows := range n.Rows {
		count, _ := table.Count(sizes, n.Parents[v])
		if len(rows) != count*sizes[v] {
			return api.ErrCount
		}
		for row := range slices.Chunk(rows, sizes[v]) {
			if !isRow(row) {
				return api.ErrSum
			}
		}
	}
	return api.OK
}

// isRow says whether these are the chances of things of which one is so.
func isRow(row []api.Frac) bool {
	nought := frac.Of(0)
	for _, f := range row {
		if frac.Cmp(f, nought) < 0 {
			return false
		}
	}
	return frac.Cmp(frac.Sum(row), frac.Of(1)) == 0
}
