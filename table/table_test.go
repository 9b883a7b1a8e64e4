package table_test

import (
	"fmt"
	"math"
	"math/big"
	"math/rand"
	"reflect"
	"slices"
	"testing"

	"augur/api"
	"augur/frac"
	"augur/table"
)

// wrong is sizes and vars that may not be.
type wrong struct{ sizes, vars []int }

func wrongs() []wrong {
	two := []int{2, 3}
	nine := slices.Repeat([]int{1}, api.MaxVars+1)
	return []wrong{
		{nil, nil}, {[]int{}, nil}, {nil, []int{0}}, {nine, nil}, {nine, []int{0}},
		{[]int{0}, nil}, {[]int{-1}, nil}, {[]int{api.MaxSize + 1}, nil}, {[]int{2, 0, 2}, []int{0}}, {[]int{2, 2, 5}, []int{0, 1}},
		{[]int{math.MaxInt}, nil}, {[]int{math.MinInt}, nil},
		{two, []int{-1}}, {two, []int{2}}, {two, []int{0, 2}}, {two, []int{1, 0}}, {two, []int{0, 0}}, {two, []int{1, 1}}, {two, []int{0, 1, 1}},
		{two, []int{math.MaxInt}}, {two, []int{math.MinInt}}, {two, []int{0, math.MaxInt}}, {two, []int{math.MaxInt, 0}}, {two, []int{-1, 0, 1}},
	}
}

// assignments: all of vars, one after the other, the last variable's value going fastest.
func assignments(sizes, vars []int) [][]int {
	if len(vars) == 0 {
		return [][]int{{}}
	}
	var all [][]int
	for value := range sizes[vars[0]] {
		for _, rest := range assignments(sizes, vars[1:]) {
			all = append(all, append([]int{value}, rest...))
		}
	}
	return all
}

// drawn: sizes, and some of the variables, of those that may be.
func drawn(r *rand.Rand) (sizes, vars []int) {
	for v := range 1 + r.Intn(5) {
		sizes = append(sizes, 1+r.Intn(api.MaxSize))
		if r.Intn(2) == 0 {
			vars = append(vars, v)
		}
	}
	return sizes, vars
}

func TestCountT1(t *testing.T) {
	eights := slices.Repeat([]int{api.MaxSize}, api.MaxVars)
	for _, c := range []struct {
		sizes, vars []int
		want        int
	}{
		{[]int{2}, nil, 1}, {[]int{2}, []int{}, 1}, {[]int{1}, []int{0}, 1}, {[]int{4}, []int{0}, 4}, {[]int{2, 3, 4}, []int{0, 2}, 8},
		{[]int{2, 3, 4}, []int{1, 2}, 12}, {[]int{2, 3, 4}, []int{0, 1, 2}, 24}, {eights, []int{0, 1, 2, 3, 4, 5, 6, 7}, 65536}, {eights, []int{7}, 4},
	} {
		if got, e := table.Count(c.sizes, c.vars); got != c.want || e != api.OK {
			t.Errorf("Count(%v, %v): %d, error %d; %d is wanted", c.sizes, c.vars, got, e, c.want)
		}
	}
	for _, w := range wrongs() {
		if got, e := table.Count(w.sizes, w.vars); got != 0 || e != api.ErrVar {
			t.Errorf("Count(%v, %v): %d, error %d", w.sizes, w.vars, got, e)
		}
	}
}

func TestIndexAndWhereT1(t *testing.T) {
	r := rand.New(rand.NewSource(3))
	for range 200 {
		sizes, vars := drawn(r)
		all := assignments(sizes, vars)
		if got, e := table.Count(sizes, vars); got != len(all) || e != api.OK {
			t.Fatalf("Count(%v, %v): %d, error %d", sizes, vars, got, e)
		}
		for k, at := range all {
			if got, e := table.Index(sizes, vars, at); got != k || e != api.OK {
				t.Fatalf("Index(%v, %v, %v): %d, error %d; %d is wanted", sizes, vars, at, got, e, k)
			}
			if got, e := table.Where(sizes, vars, k); !slices.Equal(got, at) || e != api.OK {
				t.Fatalf("Where(%v, %v, %d): %v, error %d; %v is wanted", sizes, vars, k, got, e, at)
			}
		}
	}
}

func TestIndexFaultsT1(t *testing.T) {
	sizes, vars := []int{2, 3, 4}, []int{0, 2}
	for _, w := range wrongs() { // ErrVar goes ahead of the others
		for _, at := range [][]int{nil, {0}, {-1, 9}} {
			if got, e := table.Index(w.sizes, w.vars, at); got != 0 || e != api.ErrVar {
				t.Errorf("Index(%v, %v, %v): %d, error %d", w.sizes, w.vars, at, got, e)
			}
		}
	}
	for _, at := range [][]int{nil, {}, {0}, {9}, {0, 0, 0}, {-1, 9, 9}} {
		if got, e := table.Index(sizes, vars, at); got != 0 || e != api.ErrCount {
			t.Errorf("Index(%v): %d, error %d; ErrCount is wanted", at, got, e)
		}
	}
	if got, e := table.Index(sizes, nil, []int{0}); got != 0 || e != api.ErrCount {
		t.Errorf("Index of one value for no variables: %d, error %d", got, e)
	}
	for _, at := range [][]int{{-1, 0}, {2, 0}, {0, -1}, {0, 4}, {1, 4}, {math.MaxInt, 0}, {math.MinInt, 0}, {0, math.MaxInt}, {1, math.MinInt}} {
		if got, e := table.Index(sizes, vars, at); got != 0 || e != api.ErrValue {
			t.Errorf("Index(%v): %d, error %d; ErrValue is wanted", at, got, e)
		}
	}
}

func TestWhereFaultsT1(t *testing.T) {
	for _, w := range wrongs() {
		for _, k := range []int{0, -1, 99} {
			if got, e := table.Where(w.sizes, w.vars, k); len(got) != 0 || e != api.ErrVar {
				t.Errorf("Where(%v, %v, %d): %v, error %d", w.sizes, w.vars, k, got, e)
			}
		}
	}
	for _, k := range []int{-1, 8, 9, math.MaxInt, math.MinInt} {
		if got, e := table.Where([]int{2, 3, 4}, []int{0, 2}, k); len(got) != 0 || e != api.ErrPlace {
			t.Errorf("Where(%d): %v, error %d; ErrPlace is wanted", k, got, e)
		}
	}
	if got, e := table.Where([]int{2}, nil, 1); len(got) != 0 || e != api.ErrPlace {
		t.Errorf("Where of no variables, place 1: %v, error %d", got, e)
	}
	if got, e := table.Where([]int{2}, nil, 0); len(got) != 0 || e != api.OK {
		t.Errorf("Where of no variables, place 0: %v, error %d", got, e)
	}
}

func cells(numbers ...int) []api.Frac {
	var l []api.Frac
	for _, n := range numbers {
		l = append(l, frac.Of(n))
	}
	return l
}

func TestCheckT2(t *testing.T) {
	sizes := []int{2, 3}
	for _, c := range []struct {
		t    api.Table
		want api.Errno
	}{
		{api.Table{Cells: cells(7)}, api.OK}, {api.Table{Vars: []int{0}, Cells: cells(1, 2)}, api.OK}, {api.Table{Vars: []int{1}, Cells: make([]api.Frac, 3)}, api.OK},
		{api.Table{Vars: []int{0, 1}, Cells: make([]api.Frac, 6)}, api.OK},
		{api.Table{}, api.ErrCount}, {api.Table{Cells: cells(1, 2)}, api.ErrCount}, {api.Table{Vars: []int{0}}, api.ErrCount},
		{api.Table{Vars: []int{0}, Cells: cells(1)}, api.ErrCount}, {api.Table{Vars: []int{0}, Cells: cells(1, 2, 3)}, api.ErrCount},
		{api.Table{Vars: []int{0, 1}, Cells: cells(1, 2, 3, 4, 5)}, api.ErrCount},
	} {
		if e := table.Check(sizes, c.t); e != c.want {
			t.Errorf("Check(%v): error %d; %d is wanted", c.t, e, c.want)
		}
	}
	for _, w := range wrongs() { // also where the cells are not as many, either
		for _, l := range [][]api.Frac{nil, cells(1), cells(1, 2)} {
			if e := table.Check(w.sizes, api.Table{Vars: w.vars, Cells: l}); e != api.ErrVar {
				t.Errorf("Check(%v, %v, %d cells): error %d", w.sizes, w.vars, len(l), e)
			}
		}
	}
}

func toRat(f api.Frac) *big.Rat {
	den := new(big.Int).SetBytes([]byte(f.Den))
	if den.Sign() == 0 {
		return new(big.Rat)
	}
	r := new(big.Rat).SetFrac(new(big.Int).SetBytes([]byte(f.Num)), den)
	if f.Neg {
		r.Neg(r)
	}
	return r
}

func ofRat(r *big.Rat) api.Frac {
	num := new(big.Int).Abs(r.Num())
	return api.Frac{Neg: r.Sign() < 0, Num: api.Nat(num.Bytes()), Den: api.Nat(r.Denom().Bytes())}
}

// drawnNumber: a small fraction, of any form: below 0 or not, in lowest terms or not, 0 in several ways.
func drawnNumber(r *rand.Rand) api.Frac {
	f := api.Frac{Neg: r.Intn(3) == 0, Num: api.Nat([]byte{0, byte(r.Intn(9))}), Den: api.Nat([]byte{byte(1 + r.Intn(6))})}
	switch r.Intn(15) {
	case 0:
		f.Den = "\x00"
	case 1:
		f.Num = ""
	}
	return f
}

func drawnTable(r *rand.Rand, sizes []int) api.Table {
	var t api.Table
	for v := range sizes {
		if r.Intn(2) == 0 {
			t.Vars = append(t.Vars, v)
		}
	}
	for range assignments(sizes, t.Vars) {
		t.Cells = append(t.Cells, drawnNumber(r))
	}
	return t
}

// numberFor: what a table has where all variables have these values.
func numberFor(sizes []int, t api.Table, all []int) *big.Rat {
	for k, at := range assignments(sizes, t.Vars) {
		fits := true
		for i, v := range t.Vars {
			fits = fits && at[i] == all[v]
		}
		if fits {
			return toRat(t.Cells[k])
		}
	}
	panic("no cell")
}

// hold: is it a table of these variables, in which each assignment has that number, in lowest terms?
func hold(t *testing.T, what string, got api.Table, e api.Errno, sizes, vars []int, want func(all []int) *big.Rat) {
	t.Helper()
	if e != api.OK || !slices.Equal(got.Vars, vars) || table.Check(sizes, got) != api.OK {
		t.Fatalf("%s: %v, error %d; a table of %v is wanted", what, got, e, vars)
	}
	for k, at := range assignments(sizes, vars) {
		all := make([]int, len(sizes))
		for i, v := range vars {
			all[v] = at[i]
		}
		if number := want(all); got.Cells[k] != ofRat(number) {
			t.Fatalf("%s: cell %d: %#v; %s is wanted", what, k, got.Cells[k], number)
		}
	}
}

func with(all []int, v, value int) []int {
	all = slices.Clone(all)
	all[v] = value
	return all
}

func eachDrawn(check func(r *rand.Rand, sizes []int, a api.Table)) {
	r := rand.New(rand.NewSource(5))
	for range 300 {
		var sizes []int
		for range 1 + r.Intn(4) {
			sizes = append(sizes, 1+r.Intn(3))
		}
		check(r, sizes, drawnTable(r, sizes))
	}
}

func TestProductT3(t *testing.T) {
	eachDrawn(func(r *rand.Rand, sizes []int, a api.Table) {
		b := drawnTable(r, sizes)
		var vars []int
		for v := range sizes {
			if slices.Contains(a.Vars, v) || slices.Contains(b.Vars, v) {
				vars = append(vars, v)
			}
		}
		got, e := table.Product(sizes, a, b)
		hold(t, fmt.Sprint("Product ", sizes, a.Vars, b.Vars), got, e, sizes, vars, func(all []int) *big.Rat {
			return new(big.Rat).Mul(numberFor(sizes, a, all), numberFor(sizes, b, all))
		})
	})
}

func TestOutT3(t *testing.T) {
	eachDrawn(func(r *rand.Rand, sizes []int, a api.Table) {
		for _, v := range a.Vars {
			rest := slices.DeleteFunc(slices.Clone(a.Vars), func(u int) bool { return u == v })
			got, e := table.Out(sizes, a, v, false)
			hold(t, fmt.Sprint("Out ", sizes, a.Vars, v), got, e, sizes, rest, func(all []int) *big.Rat {
				sum := new(big.Rat)
				for value := range sizes[v] {
					sum.Add(sum, numberFor(sizes, a, with(all, v, value)))
				}
				return sum
			})
			got, e = table.Out(sizes, a, v, true)
			hold(t, fmt.Sprint("Out, most ", sizes, a.Vars, v), got, e, sizes, rest, func(all []int) *big.Rat {
				most := numberFor(sizes, a, with(all, v, 0))
				for value := range sizes[v] {
					if n := numberFor(sizes, a, with(all, v, value)); n.Cmp(most) > 0 {
						most = n
					}
				}
				return most
			})
		}
	})
}

func TestFixT3(t *testing.T) {
	eachDrawn(func(r *rand.Rand, sizes []int, a api.Table) {
		for v := range sizes {
			rest := slices.DeleteFunc(slices.Clone(a.Vars), func(u int) bool { return u == v })
			for value := range sizes[v] {
				got, e := table.Fix(sizes, a, v, value)
				hold(t, fmt.Sprint("Fix ", sizes, a.Vars, v, value), got, e, sizes, rest, func(all []int) *big.Rat {
					return numberFor(sizes, a, with(all, v, value))
				})
			}
		}
	})
}

func sumOf(l []api.Frac) *big.Rat {
	sum := new(big.Rat)
	for _, f := range l {
		sum.Add(sum, toRat(f))
	}
	return sum
}

func TestNormT3(t *testing.T) {
	eachDrawn(func(r *rand.Rand, sizes []int, a api.Table) {
		sum := sumOf(a.Cells)
		got, e := table.Norm(sizes, a)
		if sum.Sign() == 0 {
			refused(t, "Norm of a sum of 0", got, e, api.ErrZero)
			return
		}
		hold(t, fmt.Sprint("Norm ", sizes, a.Vars), got, e, sizes, a.Vars, func(all []int) *big.Rat {
			return new(big.Rat).Quo(numberFor(sizes, a, all), sum)
		})
	})
}

func TestNormOfNoughtT3(t *testing.T) {
	sizes := []int{2, 2}
	for _, l := range [][]api.Frac{cells(0, 0), cells(3, -3), {{}, {Num: "\x05"}}, {{Num: "\x01", Den: "\x02"}, {Neg: true, Num: "\x03", Den: "\x06"}}} {
		got, e := table.Norm(sizes, api.Table{Vars: []int{1}, Cells: l})
		refused(t, fmt.Sprintf("Norm of %#v", l), got, e, api.ErrZero)
	}
	got, e := table.Norm(sizes, api.Table{Cells: cells(0)})
	refused(t, "Norm of 0", got, e, api.ErrZero)
	got, e = table.Norm(sizes, api.Table{Vars: []int{0}, Cells: cells(1, -3)})
	if want := []api.Frac{{Neg: true, Num: "\x01", Den: "\x02"}, {Num: "\x03", Den: "\x02"}}; e != api.OK || !slices.Equal(got.Cells, want) {
		t.Errorf("Norm where the sum is below 0: %#v, error %d", got.Cells, e)
	}
}

func TestBestT3(t *testing.T) {
	eachDrawn(func(r *rand.Rand, sizes []int, a api.Table) {
		best := 0
		for k := range a.Cells {
			if toRat(a.Cells[k]).Cmp(toRat(a.Cells[best])) > 0 {
				best = k
			}
		}
		want := assignments(sizes, a.Vars)[best]
		if at, number, e := table.Best(sizes, a); e != api.OK || !slices.Equal(at, want) || number != ofRat(toRat(a.Cells[best])) {
			t.Fatalf("Best(%v, %#v): %v, %#v, error %d; %v is wanted", sizes, a, at, number, e, want)
		}
	})
	// The first of like ones, in whatever form they are; numbers below 0.
	half := api.Frac{Num: "\x02", Den: "\x04"}
	at, number, e := table.Best([]int{1, 4}, api.Table{Vars: []int{0, 1}, Cells: []api.Frac{{}, half, {Num: "\x01", Den: "\x02"}, half}})
	if e != api.OK || !slices.Equal(at, []int{0, 1}) || number != frac.Canon(half) {
		t.Errorf("Best of like ones: %v, %#v, error %d", at, number, e)
	}
	at, number, e = table.Best([]int{3}, api.Table{Vars: []int{0}, Cells: cells(-2, -1, -1)})
	if e != api.OK || !slices.Equal(at, []int{1}) || number != frac.Of(-1) {
		t.Errorf("Best of numbers below 0: %v, %#v, error %d", at, number, e)
	}
	at, number, e = table.Best([]int{3}, api.Table{Cells: []api.Frac{{Neg: true}}})
	if e != api.OK || len(at) != 0 || number != frac.Of(0) {
		t.Errorf("Best of no variables: %v, %#v, error %d", at, number, e)
	}
}

// refused: is it this error, and nothing beside it (P1)?
func refused(t *testing.T, what string, got api.Table, e, want api.Errno) {
	t.Helper()
	if e != want || len(got.Vars) != 0 || len(got.Cells) != 0 {
		t.Errorf("%s: %v, error %d; error %d is wanted", what, got, e, want)
	}
}

// A table that may not be is told ahead of all other faults.
func TestCheckFirstT3(t *testing.T) {
	good, goodSizes := api.Table{Vars: []int{1}, Cells: cells(1, 2, 3)}, []int{2, 3}
	refuse := func(sizes []int, bad api.Table, want api.Errno) {
		t.Helper()
		what := fmt.Sprint(sizes, bad.Vars, len(bad.Cells))
		for _, v := range []int{-1, 0, 1, 99} {
			for _, most := range []bool{false, true} {
				got, e := table.Out(sizes, bad, v, most)
				refused(t, "Out "+what, got, e, want)
			}
			for _, value := range []int{-1, 0, 99} {
				got, e := table.Fix(sizes, bad, v, value)
				refused(t, "Fix "+what, got, e, want)
			}
		}
		got, e := table.Norm(sizes, bad)
		refused(t, "Norm "+what, got, e, want)
		got, e = table.Product(sizes, bad, bad)
		refused(t, "Product "+what, got, e, want)
		if at, number, e := table.Best(sizes, bad); e != want || len(at) != 0 || number.Num != "" || number.Neg {
			t.Errorf("Best %s: %v, %#v, error %d; error %d is wanted", what, at, number, e, want)
		}
	}
	for _, w := range wrongs() {
		refuse(w.sizes, api.Table{Vars: w.vars, Cells: cells(1, 2)}, api.ErrVar)
		refuse(w.sizes, api.Table{Vars: w.vars}, api.ErrVar)
	}
	few, many, noVar := api.Table{Vars: []int{0}, Cells: cells(0)}, api.Table{Cells: cells(0, 0)}, api.Table{Vars: []int{2}}
	for _, bad := range []api.Table{few, many, {}} {
		refuse(goodSizes, bad, api.ErrCount)
	}
	for _, c := range []struct {
		a, b api.Table
		want api.Errno
	}{{few, noVar, api.ErrCount}, {noVar, few, api.ErrVar}, {good, few, api.ErrCount}, {good, noVar, api.ErrVar}, {few, good, api.ErrCount}, {noVar, good, api.ErrVar}} {
		got, e := table.Product(goodSizes, c.a, c.b)
		refused(t, "Product", got, e, c.want)
	}
}

func TestOutAndFixFaultsT3(t *testing.T) {
	sizes, a := []int{2, 3, 4}, api.Table{Vars: []int{1}, Cells: cells(1, 2, 3)}
	for _, v := range []int{-1, 0, 2, 3, math.MaxInt, math.MinInt} {
		for _, most := range []bool{false, true} {
			got, e := table.Out(sizes, a, v, most)
			refused(t, fmt.Sprint("Out ", v), got, e, api.ErrVar)
		}
	}
	for _, v := range []int{-1, 3, math.MaxInt, math.MinInt} {
		for _, value := range []int{0, -1, 9} {
			got, e := table.Fix(sizes, a, v, value)
			refused(t, fmt.Sprint("Fix ", v), got, e, api.ErrVar)
		}
	}
	for v, size := range sizes { // also of variables that the table does not have
		for _, value := range []int{-1, size, math.MaxInt, math.MinInt} {
			got, e := table.Fix(sizes, a, v, value)
			refused(t, fmt.Sprint("Fix ", v, value), got, e, api.ErrValue)
		}
	}
}

func TestGreatestTable(t *testing.T) {
	sizes := slices.Repeat([]int{api.MaxSize}, api.MaxVars)
	halves := api.Table{Vars: []int{0, 1, 2, 3}, Cells: slices.Repeat([]api.Frac{{Num: "\x01", Den: "\x02"}}, 256)}
	thirds := api.Table{Vars: []int{4, 5, 6, 7}, Cells: slices.Repeat([]api.Frac{{Num: "\x02", Den: "\x06"}}, 256)}
	all, e := table.Product(sizes, halves, thirds)
	if e != api.OK || len(all.Vars) != api.MaxVars || len(all.Cells) != 65536 || all.Cells[65535] != (api.Frac{Num: "\x01", Den: "\x06"}) {
		t.Fatalf("Product: %d variables, %d cells, error %d", len(all.Vars), len(all.Cells), e)
	}
	for v := range sizes {
		if all, e = table.Out(sizes, all, v, v%2 == 1); e != api.OK {
			t.Fatalf("Out %d: error %d", v, e)
		}
	}
	if want := (api.Frac{Num: "\x80", Den: "\x03"}); len(all.Vars) != 0 || len(all.Cells) != 1 || all.Cells[0] != want {
		t.Errorf("all variables out: %#v", all)
	}
}

// P2: nothing that is handed in is written into, and what comes out shares no memory with it.
func TestListsStayT3(t *testing.T) {
	eachDrawn(func(r *rand.Rand, sizes []int, a api.Table) {
		b := drawnTable(r, sizes)
		v := r.Intn(len(sizes))
		copied := func() []any {
			return []any{slices.Clone(sizes), slices.Clone(a.Vars), slices.Clone(a.Cells), slices.Clone(b.Vars), slices.Clone(b.Cells)}
		}
		before := copied()
		for _, call := range []func() (api.Table, api.Errno){
			func() (api.Table, api.Errno) { return table.Product(sizes, a, b) },
			func() (api.Table, api.Errno) { return table.Product(sizes, a, a) },
			func() (api.Table, api.Errno) { return table.Out(sizes, a, v, false) },
			func() (api.Table, api.Errno) { return table.Out(sizes, a, v, true) },
			func() (api.Table, api.Errno) { return table.Fix(sizes, a, v, 0) },
			func() (api.Table, api.Errno) { return table.Norm(sizes, a) },
		} {
			got, _ := call()
			again, _ := call()
			spoil(got)
			third, _ := call()
			if !reflect.DeepEqual(again, third) || !reflect.DeepEqual(before, copied()) {
				t.Fatalf("what comes out is not the caller's: %v, %v, %v", sizes, a, b)
			}
		}
		at, _, _ := table.Best(sizes, a)
		place, _ := table.Where(sizes, a.Vars, 0)
		for _, l := range [][]int{at, place} {
			for i := range l {
				l[i] = -7
			}
		}
		if !reflect.DeepEqual(before, copied()) {
			t.Fatalf("Best or Where: %v, %v", sizes, a)
		}
	})
}

// spoil writes into all that lies in a table's memory, also behind the ends of its lists.
func spoil(t api.Table) {
	vars, numbers := t.Vars[:cap(t.Vars)], t.Cells[:cap(t.Cells)]
	for i := range vars {
		vars[i] = -7
	}
	for i := range numbers {
		numbers[i] = api.Frac{Num: "spoilt"}
	}
}

func TestExample(t *testing.T) {
	sizes := []int{2, 2}
	product, e := table.Product(sizes, api.Table{Vars: []int{0}, Cells: cells(1, 2)}, api.Table{Vars: []int{1}, Cells: cells(3, 5)})
	if e != api.OK || !slices.Equal(product.Vars, []int{0, 1}) || !slices.Equal(product.Cells, cells(3, 5, 6, 10)) {
		t.Errorf("Product: %#v, error %d", product, e)
	}
	out, e := table.Out(sizes, product, 0, false)
	if e != api.OK || !slices.Equal(out.Vars, []int{1}) || !slices.Equal(out.Cells, cells(9, 15)) {
		t.Errorf("Out: %#v, error %d", out, e)
	}
}
