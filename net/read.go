package net

import (
	"slices"
	"strings"

	"augur/api"
	"augur/frac"
	"augur/graph"
	"augur/table"
)

// gaveUp is what a reader panics with: so what it found wrong is known from any other panic.
type gaveUp struct {
	why api.Errno
}

// reader reads a net. All its methods give up at the first fault.
type reader struct {
	tokens tokens
	net    api.Net
}

// read is the net of a text, or the first fault.
func read(text string) (n api.Net, e api.Errno) {
	defer func() {
		if caught := recover(); caught != nil {
			fault, ok := caught.(gaveUp)
			if !ok {
				panic(caught)
			}
			n, e = api.Net{}, fault.why
		}
	}()
	r := reader{tokens: tokens{rest: text}}
	r.readParts()
	r.checkWhole()
	return r.net, api.OK
}

func (r *reader) giveUpIf(wrong bool, why api.Errno) {
	if wrong {
		panic(gaveUp{why})
	}
}

// must gives up at a token that can't stand where it stands, and at the end where one should be.
func (r *reader) must(mayStand bool, token string) {
	r.giveUpIf(!mayStand && token == "", api.ErrShort)
	r.giveUpIf(!mayStand, api.ErrWord)
}

func (r *reader) sign(sign string) {
	token := r.tokens.next()
	r.must(token == sign, token)
}

// readParts takes a first part for granted, as a net declares something.
func (r *reader) readParts() {
	r.readPart()
	for r.tokens.look() != "" {
		r.readPart()
	}
}

func (r *reader) readPart() {
	token := r.tokens.next()
	if token == varWord {
		r.declare()
		return
	}
	v := r.variable(token)
	r.giveUpIf(r.hasRows(v), api.ErrDouble)
	switch token = r.tokens.next(); token {
	case ":":
		r.net.Rows[v] = r.row(v)
	case "|":
		r.family(v)
	default:
		r.must(false, token)
	}
}

// checkWhole finds what no token can show.
func (r *reader) checkWhole() {
	for v := range r.net.Vars {
		r.giveUpIf(!r.hasRows(v), api.ErrCount)
	}
	e := graph.Check(r.net.Parents)
	r.giveUpIf(e != api.OK, e)
}

// hasRows hangs on there being no row without a number.
func (r *reader) hasRows(v int) bool {
	return len(r.net.Rows[v]) > 0
}

func (r *reader) declare() {
	x := api.Var{Name: r.newName(namesOf(r.net.Vars), api.MaxVars)}
	r.sign("{")
	for len(x.Values) == 0 || r.tokens.look() != "}" {
		x.Values = append(x.Values, r.newName(x.Values, api.MaxSize))
	}
	r.sign("}")
	r.net.Vars = append(r.net.Vars, x)
	r.net.Parents = append(r.net.Parents, nil)
	r.net.Rows = append(r.net.Rows, nil)
}

// newName is a name beside those that are there, of which there may be so many. It keeps nothing of the text.
func (r *reader) newName(there []string, most int) string {
	token := r.tokens.next()
	r.must(isName(token), token)
	r.giveUpIf(slices.Contains(there, token), api.ErrDouble)
	r.giveUpIf(len(there) == most, api.ErrLimit)
	return strings.Clone(token)
}

// known is the place of a name among these.
func (r *reader) known(names []string, token string) int {
	r.must(isName(token), token)
	i := slices.Index(names, token)
	r.giveUpIf(i < 0, api.ErrName)
	return i
}

func (r *reader) variable(token string) int {
	return r.known(namesOf(r.net.Vars), token)
}

// row is the numbers of v, up to the `;`.
func (r *reader) row(v int) []api.Frac {
	size := len(r.net.Vars[v].Values)
	row := make([]api.Frac, 0, size)
	for r.tokens.look() != ";" {
		token := r.tokens.next()
		r.must(isNumber(token), token)
		f, e := frac.Parse(token)
		r.giveUpIf(e != api.OK, e)
		r.giveUpIf(len(row) == size, api.ErrCount)
		row = append(row, f)
	}
	r.sign(";")
	r.giveUpIf(len(row) < size, api.ErrCount)
	r.giveUpIf(!isRow(row), api.ErrSum)
	return row
}

// family reads the parents of v and its rows, behind the `|`.
func (r *reader) family(v int) {
	told := r.parents(v)
	r.net.Parents[v] = rising(slices.Clone(told))
	count, _ := table.Count(Sizes(r.net), r.net.Parents[v])
	rows := make([][]api.Frac, count)
	for r.tokens.look() != elseWord && r.tokens.look() != "}" {
		place := r.place(v, told)
		r.sign(":")
		r.giveUpIf(rows[place] != nil, api.ErrDouble)
		rows[place] = r.row(v)
	}
	if r.tokens.look() == elseWord {
		r.readElse(v, rows)
	}
	r.sign("}")
	r.giveUpIf(slices.ContainsFunc(rows, func(row []api.Frac) bool { return row == nil }), api.ErrCount)
	r.net.Rows[v] = slices.Concat(rows...)
}

// parents is those of v in the order in which they are told.
func (r *reader) parents(v int) []int {
	var told []int
	for len(told) == 0 || r.tokens.look() != "{" {
		parent := r.variable(r.tokens.next())
		r.giveUpIf(parent == v || slices.Contains(told, parent), api.ErrDouble)
		told = append(told, parent)
	}
	r.sign("{")
	return told
}

// place reads a value for each parent that was told: where the row of these stands, in the order of the net.
func (r *reader) place(v int, told []int) int {
	parents := r.net.Parents[v]
	at := make([]int, len(parents))
	for _, parent := range told {
		at[slices.Index(parents, parent)] = r.known(r.net.Vars[parent].Values, r.tokens.next())
	}
	place, _ := table.Index(Sizes(r.net), parents, at)
	return place
}

// readElse lays the row behind `else` where none is yet.
func (r *reader) readElse(v int, rows [][]api.Frac) {
	r.sign(elseWord)
	r.sign(":")
	other := r.row(v)
	for place, row := range rows {
		if row == nil {
			rows[place] = other
		}
	}
}
