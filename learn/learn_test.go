package learn_test

import (
	"fmt"
	"math"
	"math/big"
	"reflect"
	"slices"
	"sync"
	"testing"

	"augur/api"
	"augur/frac"
	"augur/infer"
	"augur/learn"
	"augur/net"
)

// fault is data that may not be, and what is said of them.
type fault struct {
	sizes []int
	data  [][]int
	want  api.Errno
}

func faults() []fault {
	two, nine := []int{2, 3}, slices.Repeat([]int{1}, api.MaxVars+1)
	many := slices.Repeat([][]int{{0, 0}}, api.MaxData+1)
	l := []fault{
		{two, many, api.ErrLimit}, {two, slices.Repeat([][]int{{0, 0}}, 1000), api.ErrLimit},
		{two, [][]int{nil}, api.ErrCount}, {two, [][]int{{}}, api.ErrCount}, {two, [][]int{{0}}, api.ErrCount}, {two, [][]int{{0, 0, 0}}, api.ErrCount}, {two, [][]int{{0, 0}, {1, 2}, {0}}, api.ErrCount},
		{two, [][]int{{2, 0}}, api.ErrValue}, {two, [][]int{{0, 3}}, api.ErrValue}, {two, [][]int{{-2, 0}}, api.ErrValue}, {two, [][]int{{0, 0}, {0, -2}}, api.ErrValue},
		{two, [][]int{{math.MaxInt, 0}}, api.ErrValue}, {two, [][]int{{0, math.MinInt}}, api.ErrValue}, {[]int{1}, [][]int{{1}}, api.ErrValue},
		// Of two faults the one that is named first; of rows the first one's.
		{two, slices.Repeat([][]int{{9}}, api.MaxData+1), api.ErrLimit}, {two, append([][]int{{0, 9}}, many...), api.ErrLimit}, {two, [][]int{{9, 9, 9}}, api.ErrCount}, {two, [][]int{{9}}, api.ErrCount},
		{two, [][]int{{0}, {9, 9}}, api.ErrCount}, {two, [][]int{{0, 9}, {0}}, api.ErrValue},
	}
	for _, sizes := range [][]int{nil, {}, nine, {0}, {-1}, {api.MaxSize + 1}, {2, 0, 2}, {2, 2, 5}, {math.MaxInt}, {math.MinInt}} {
		l = append(l, fault{sizes, nil, api.ErrVar}, fault{sizes, [][]int{slices.Clone(sizes)}, api.ErrVar}, fault{sizes, many, api.ErrVar}, fault{sizes, [][]int{{9}, {}}, api.ErrVar})
	}
	return l
}

func TestCheckL1(t *testing.T) {
	for _, f := range faults() {
		if e := learn.Check(f.sizes, f.data); e != f.want {
			t.Errorf("Check(%v, %v): error %d; %d is wanted", f.sizes, f.data, e, f.want)
		}
	}
	for _, c := range []struct {
		sizes []int
		data  [][]int
	}{
		{[]int{1}, nil}, {[]int{1}, [][]int{}}, {[]int{1}, [][]int{{0}, {-1}}}, {[]int{2, 3}, [][]int{{1, 2}, {-1, -1}, {0, 0}, {-1, 2}}},
		{[]int{4, 4, 4, 4, 4, 4, 4, 4}, slices.Repeat([][]int{{3, -1, 3, 0, 3, 1, 2, -1}}, api.MaxData)},
	} {
		if e := learn.Check(c.sizes, c.data); e != api.OK {
			t.Errorf("Check(%v, %v): error %d", c.sizes, c.data, e)
		}
	}
}

// counted is the rows of a variable by how often each value was seen.
func counted(n api.Net, v int, data [][]int) []api.Frac {
	counts := make([]int64, len(n.Rows[v]))
	for _, row := range data {
		counts[placeOf(n, v, row)]++
	}
	var l []api.Frac
	for row := range slices.Chunk(counts, len(n.Vars[v].Values)) {
		whole := int64(0)
		for _, c := range row {
			whole += c
		}
		for _, c := range row {
			if whole == 0 {
				l = append(l, lowest(big.NewRat(1, int64(len(row)))))
			} else {
				l = append(l, lowest(big.NewRat(c, whole)))
			}
		}
	}
	return l
}

func TestFitL2(t *testing.T) {
	lacking, tried := 0, 0
	each(t, 100, func(d *die, n api.Net, data [][]int) {
		got, e := learn.Fit(net.Sizes(n), n.Parents, data)
		if slices.ContainsFunc(data, func(row []int) bool { return slices.Contains(row, -1) }) {
			if lacking++; e != api.ErrValue || len(got) != 0 {
				t.Fatalf("%s: %s, error %d; ErrValue is wanted", told(n, data), rows(got), e)
			}
			return
		}
		tried++
		if e != api.OK || len(got) != len(n.Vars) {
			t.Fatalf("%s: %s, error %d", told(n, data), rows(got), e)
		}
		for v := range got {
			if want := counted(n, v, data); !slices.Equal(got[v], want) {
				t.Fatalf("%s: %s; %s is wanted for %d", told(n, data), rows(got), texts(want), v)
			}
		}
		if e := net.Check(api.Net{Vars: n.Vars, Parents: n.Parents, Rows: got}); e != api.OK {
			t.Fatalf("%s: %s is no net: error %d", told(n, data), rows(got), e)
		}
	})
	if lacking < 100 || tried < 100 {
		t.Errorf("of just %d something was not seen, of %d all was", lacking, tried)
	}
}

func TestFitEdgesL2(t *testing.T) {
	for _, c := range []struct {
		sizes   []int
		parents [][]int
		data    [][]int
		want    string
	}{
		{[]int{2, 2}, [][]int{nil, {0}}, [][]int{{0, 0}, {0, 1}, {0, 1}}, "1 0; 1/3 2/3 1/2 1/2"},
		{[]int{2, 2}, [][]int{nil, {0}}, nil, "1/2 1/2; 1/2 1/2 1/2 1/2"},
		{[]int{3}, [][]int{nil}, [][]int{}, "1/3 1/3 1/3"},
		{[]int{1}, [][]int{nil}, [][]int{{0}}, "1"}, {[]int{1}, [][]int{nil}, nil, "1"},
		{[]int{4}, [][]int{nil}, [][]int{{3}, {3}, {1}, {0}, {3}, {3}, {0}, {3}}, "1/4 1/8 0 5/8"},
		// A parent behind its child; two parents, of which the last goes fastest.
		{[]int{2, 2}, [][]int{{1}, nil}, [][]int{{0, 1}, {1, 1}, {0, 1}}, "1/2 1/2 2/3 1/3; 0 1"},
		{[]int{2, 2, 3}, [][]int{nil, {0, 2}, nil}, [][]int{{0, 1, 2}, {1, 0, 0}, {1, 1, 0}}, "1/3 2/3; 1/2 1/2 1/2 1/2 0 1 1/2 1/2 1/2 1/2 1/2 1/2; 2/3 0 1/3"},
	} {
		got, e := learn.Fit(c.sizes, c.parents, c.data)
		if e != api.OK || rows(got) != c.want {
			t.Errorf("Fit(%v, %v, %v): %s, error %d; %s is wanted", c.sizes, c.parents, c.data, rows(got), e, c.want)
		}
	}
}

func TestFitFaultsL2(t *testing.T) {
	for _, f := range faults() {
		for _, parents := range [][][]int{nil, {{0}}, make([][]int, len(f.sizes)), {{1}, {0}}} {
			if got, e := learn.Fit(f.sizes, parents, f.data); e != f.want || len(got) != 0 {
				t.Errorf("Fit(%v, %v, %v): %s, error %d; %d is wanted", f.sizes, parents, f.data, rows(got), e, f.want)
			}
		}
	}
	two := []int{2, 3}
	for _, c := range []struct {
		parents, data [][]int
		want          api.Errno
	}{
		{[][]int{nil, {0}}, [][]int{{1, 2}}, api.OK},
		{nil, nil, api.ErrVar}, {make([][]int, api.MaxVars+1), nil, api.ErrVar}, {[][]int{{0}, nil}, nil, api.ErrVar}, {[][]int{nil, {2}}, nil, api.ErrVar}, {[][]int{nil, {-1}}, nil, api.ErrVar},
		{[][]int{nil, {0, 0}}, nil, api.ErrVar}, {[][]int{{1}, {0}}, nil, api.ErrCycle},
		{[][]int{nil}, nil, api.ErrCount}, {[][]int{nil, nil, nil}, nil, api.ErrCount}, {[][]int{{2}, nil, {1}}, nil, api.ErrCount},
		{[][]int{nil, {0}}, [][]int{{1, -1}}, api.ErrValue}, {[][]int{nil, nil}, [][]int{{1, 2}, {-1, 0}}, api.ErrValue},
		// Of two faults the one that is named first.
		{[][]int{{1}, {0}}, [][]int{{2, 0}}, api.ErrValue}, {[][]int{{1}, {0}}, [][]int{{0, 0, 0}}, api.ErrCount}, {[][]int{{1}, {0}}, [][]int{{-1, 0}}, api.ErrCycle},
		{[][]int{{1}, {0}, nil}, nil, api.ErrCycle}, {[][]int{{5}}, nil, api.ErrVar}, {[][]int{nil}, [][]int{{-1, 0}}, api.ErrCount}, {[][]int{{1}}, [][]int{{0, 0}}, api.ErrVar},
	} {
		got, e := learn.Fit(two, c.parents, c.data)
		if e != c.want || e != api.OK && len(got) != 0 {
			t.Errorf("Fit(%v, %v): %s, error %d; %d is wanted", c.parents, c.data, rows(got), e, c.want)
		}
	}
}

// No other rows make data likelier than those of Fit.
func TestFitIsLikeliestL2(t *testing.T) {
	tried := 0
	each(t, 60, func(d *die, n api.Net, data [][]int) {
		fitted, e := learn.Fit(net.Sizes(n), n.Parents, data)
		if e != api.OK {
			return
		}
		best, e := learn.Likely(api.Net{Vars: n.Vars, Parents: n.Parents, Rows: fitted}, data)
		if e != api.OK || frac.Cmp(best, frac.Of(0)) <= 0 {
			t.Fatalf("%s: %s, error %d", told(n, data), frac.Text(best), e)
		}
		for range 4 {
			other := netOf(d, net.Sizes(n), n.Parents, 2+d.n(5))
			if p, _ := learn.Likely(other, data); frac.Cmp(p, best) > 0 {
				t.Fatalf("%s: %s is likelier than %s", told(other, data), frac.Text(p), rows(fitted))
			}
			tried++
		}
	})
	if tried < 200 {
		t.Errorf("just %d were tried", tried)
	}
}

func TestLikelyL3(t *testing.T) {
	noughts, some := 0, 0
	each(t, 100, func(d *die, n api.Net, data [][]int) {
		want := likely(n, data)
		if want.Sign() == 0 {
			noughts++
		} else {
			some++
		}
		if got, e := learn.Likely(n, data); e != api.OK || got != lowest(want) {
			t.Fatalf("%s: %s, error %d; %s is wanted", told(n, data), frac.Text(got), e, want)
		}
	})
	if noughts < 50 || some < 50 {
		t.Errorf("just %d can't be, %d can", noughts, some)
	}
}

// Likely is the product of infer's Prob of what was seen.
func TestLikelyIsProbL3(t *testing.T) {
	each(t, 40, func(d *die, n api.Net, data [][]int) {
		want := frac.Of(1)
		for _, row := range data {
			var facts []api.Fact
			for v, value := range row {
				if value != -1 {
					facts = append(facts, api.Fact{Var: v, Value: value})
				}
			}
			p, _ := infer.Prob(n, facts)
			want = frac.Mul(want, p)
		}
		if got, e := learn.Likely(n, data); e != api.OK || got != want {
			t.Fatalf("%s: %s, error %d; %s is wanted", told(n, data), frac.Text(got), e, frac.Text(want))
		}
	})
}

// improved is the rows of v by the sum over all ways, for data that may be.
func improved(n api.Net, v int, all []way, data [][]int) []api.Frac {
	sums := make([]*big.Rat, len(n.Rows[v]))
	for i := range sums {
		sums[i] = new(big.Rat)
	}
	for _, row := range data {
		l := having(all, row)
		whole := sum(l)
		for _, w := range l {
			k := placeOf(n, v, w.at)
			sums[k].Add(sums[k], new(big.Rat).Quo(w.p, whole))
		}
	}
	size := len(n.Vars[v].Values)
	var out []api.Frac
	for i := range sums {
		whole := new(big.Rat)
		for _, s := range sums[i/size*size : i/size*size+size] {
			whole.Add(whole, s)
		}
		if whole.Sign() == 0 {
			out = append(out, lowest(rat(n.Rows[v][i])))
		} else {
			out = append(out, lowest(new(big.Rat).Quo(sums[i], whole)))
		}
	}
	return out
}

func TestImproveL3(t *testing.T) {
	noughts, some, stays := 0, 0, 0
	each(t, 100, func(d *die, n api.Net, data [][]int) {
		m, e := learn.Improve(n, data)
		if likely(n, data).Sign() == 0 {
			if noughts++; e != api.ErrZero || !reflect.DeepEqual(m, api.Net{}) {
				t.Fatalf("%s: %v, error %d; ErrZero is wanted", told(n, data), m, e)
			}
			return
		}
		some++
		if e != api.OK || !reflect.DeepEqual(m.Vars, n.Vars) || fmt.Sprint(m.Parents) != fmt.Sprint(n.Parents) || len(m.Rows) != len(n.Rows) {
			t.Fatalf("%s: %v, error %d", told(n, data), m, e)
		}
		all := ways(n)
		for v := range m.Rows {
			want := improved(n, v, all, data)
			if !slices.Equal(m.Rows[v], want) {
				t.Fatalf("%s: %s; %s is wanted for %d", told(n, data), rows(m.Rows), texts(want), v)
			}
			if texts(want) == texts(n.Rows[v]) {
				stays++
			}
		}
	})
	if noughts < 50 || some < 50 || stays < 50 {
		t.Errorf("just %d can't be, %d can, %d stay as they are", noughts, some, stays)
	}
}

// The data are never less likely by what Improve gives; where all was seen it gives what Fit does at once.
func TestImproveImprovesL3(t *testing.T) {
	better, whole := 0, 0
	each(t, 60, func(d *die, n api.Net, data [][]int) {
		p, _ := learn.Likely(n, data)
		fitted, seen := learn.Fit(net.Sizes(n), n.Parents, data)
		for range 3 {
			m, e := learn.Improve(n, data)
			if e != api.OK {
				return
			}
			if e := net.Check(m); e != api.OK {
				t.Fatalf("%s: %s is no net: error %d", told(n, data), rows(m.Rows), e)
			}
			q, _ := learn.Likely(m, data)
			switch frac.Cmp(q, p) {
			case -1:
				t.Fatalf("%s: %s is less than %s", told(n, data), frac.Text(q), frac.Text(p))
			case 1:
				better++
			}
			if seen == api.OK {
				whole++
				best, _ := learn.Likely(api.Net{Vars: n.Vars, Parents: n.Parents, Rows: fitted}, data)
				if q != best {
					t.Fatalf("%s: %s is wanted, not %s", told(n, data), frac.Text(best), frac.Text(q))
				}
			}
			if len(frac.Text(q)) > 2000 { // numbers grow with each round
				return
			}
			n, p = m, q
		}
	})
	if better < 50 || whole < 20 {
		t.Errorf("just %d were made likelier, of %d all was seen", better, whole)
	}
}

const pairText = "var a { x y } var b { x y } a : 1/2 1/2 ; b | a { x : 1/3 2/3 ; y : 3/4 1/4 ; }"

func TestEdgesL3(t *testing.T) {
	for _, c := range []struct {
		text   string
		data   [][]int
		likely string
		want   string // "" where they can't be
	}{
		{pairText, [][]int{{-1, 0}, {-1, 1}, {0, 1}}, "143/1728", "97/143 46/143; 44/291 247/291 33/46 13/46"},
		{pairText, nil, "1", "1/2 1/2; 1/3 2/3 3/4 1/4"},
		{pairText, [][]int{}, "1", "1/2 1/2; 1/3 2/3 3/4 1/4"},
		{pairText, [][]int{{-1, -1}}, "1", "1/2 1/2; 1/3 2/3 3/4 1/4"},
		{pairText, [][]int{{-1, -1}, {-1, -1}, {-1, -1}, {-1, -1}, {-1, -1}, {-1, -1}, {-1, -1}, {-1, -1}}, "1", "1/2 1/2; 1/3 2/3 3/4 1/4"},
		{pairText, [][]int{{0, 1}}, "1/3", "1 0; 0 1 3/4 1/4"},
		{pairText, [][]int{{0, -1}}, "1/2", "1 0; 1/3 2/3 3/4 1/4"},
		{"var a { x } a : 1 ;", [][]int{{0}, {-1}}, "1", "1"},
		{"var a { x y } var b { x y } a : 1 0 ; b | a { x : 1/3 2/3 ; y : 3/4 1/4 ; }", [][]int{{-1, 0}}, "1/3", "1 0; 1 0 3/4 1/4"},
		{"var a { x y } var b { x y } a : 1 0 ; b | a { x : 1/3 2/3 ; y : 3/4 1/4 ; }", [][]int{{0, 0}, {1, -1}}, "0", ""},
		{"var a { x y } var b { x y } a : 1 0 ; b | a { x : 1/3 2/3 ; y : 3/4 1/4 ; }", [][]int{{1, 0}, {0, 0}}, "0", ""},
		{"var a { x y } var b { x y } a : 1/2 1/2 ; b | a { else : 0 1 ; }", [][]int{{-1, 0}}, "0", ""},
	} {
		n := parsed(t, c.text)
		if p, e := learn.Likely(n, c.data); e != api.OK || frac.Text(p) != c.likely {
			t.Errorf("Likely(%s, %v): %s, error %d; %s is wanted", c.text, c.data, frac.Text(p), e, c.likely)
		}
		m, e := learn.Improve(n, c.data)
		if c.want == "" {
			if e != api.ErrZero || !reflect.DeepEqual(m, api.Net{}) {
				t.Errorf("Improve(%s, %v): %v, error %d; ErrZero is wanted", c.text, c.data, m, e)
			}
		} else if e != api.OK || rows(m.Rows) != c.want {
			t.Errorf("Improve(%s, %v): %s, error %d; %s is wanted", c.text, c.data, rows(m.Rows), e, c.want)
		}
	}
}

// refused: do both calls say this, and nothing beside it (P1)?
func refused(t *testing.T, what string, n api.Net, data [][]int, want api.Errno) {
	t.Helper()
	if p, e := learn.Likely(n, data); e != want || !isNone(p) {
		t.Errorf("Likely, %s: %s, error %d; %d is wanted", what, frac.Text(p), e, want)
	}
	if m, e := learn.Improve(n, data); e != want || !reflect.DeepEqual(m, api.Net{}) {
		t.Errorf("Improve, %s: %v, error %d; %d is wanted", what, m, e, want)
	}
}

func TestFaultsL3(t *testing.T) {
	for what, n := range spoilt(t) {
		for _, data := range [][][]int{nil, {{0, 0, 0}}, {{0}}, {{9, 9, 9}}, make([][]int, api.MaxData+1)} {
			refused(t, fmt.Sprint(what, data), n, data, net.Check(n))
		}
	}
	for _, f := range faults() {
		if f.want == api.ErrVar { // a net that may be has no such sizes
			continue
		}
		d := die(1)
		refused(t, fmt.Sprint(f.sizes, f.data), netOf(&d, f.sizes, make([][]int, len(f.sizes)), 9), f.data, f.want)
	}
	// A wrong row is told also where a row ahead of it can't be.
	never := parsed(t, "var a { x y } a : 1 0 ;")
	refused(t, "can't be, no value", never, [][]int{{1}, {2}}, api.ErrValue)
	refused(t, "can't be, too short", never, [][]int{{1}, {}}, api.ErrCount)
}

// The document's example.
func TestExample(t *testing.T) {
	if got, e := learn.Fit([]int{2, 2}, [][]int{nil, {0}}, [][]int{{0, 0}, {0, 1}, {0, 1}}); e != api.OK || rows(got) != "1 0; 1/3 2/3 1/2 1/2" {
		t.Errorf("Fit: %s, error %d", rows(got), e)
	}
	n, data := parsed(t, pairText), [][]int{{-1, 0}, {-1, 1}, {0, 1}}
	if p, e := learn.Likely(n, data); e != api.OK || frac.Text(p) != "143/1728" {
		t.Errorf("Likely: %s, error %d", frac.Text(p), e)
	}
	m, e := learn.Improve(n, data)
	if e != api.OK || rows(m.Rows) != "97/143 46/143; 44/291 247/291 33/46 13/46" {
		t.Errorf("Improve: %s, error %d", rows(m.Rows), e)
	}
	if p, e := learn.Likely(m, data); e != api.OK || frac.Text(p) != "38/297" {
		t.Errorf("Likely behind it: %s, error %d", frac.Text(p), e)
	}
}

// The greatest: eight variables of four values in a row, and eight of three that are all wed; of eight rows of data.
func TestGreatest(t *testing.T) {
	d := die(19)
	row, wed := make([][]int, api.MaxVars), make([][]int, api.MaxVars)
	for v := range api.MaxVars {
		if v > 0 {
			row[v] = []int{v - 1}
		}
		for u := range v {
			wed[v] = append(wed[v], u)
		}
	}
	for _, n := range []api.Net{
		netOf(&d, slices.Repeat([]int{api.MaxSize}, api.MaxVars), row, 3),
		netOf(&d, slices.Repeat([]int{3}, api.MaxVars), wed, 3),
	} {
		sizes := net.Sizes(n)
		all := ways(n)
		var data [][]int
		for len(data) < api.MaxData {
			// Of a way that may be, all but two are seen.
			w := all[d.n(len(all))]
			if w.p.Sign() > 0 {
				seen := slices.Clone(w.at)
				seen[d.n(len(seen))], seen[d.n(len(seen))] = -1, -1
				data = append(data, seen)
			}
		}
		if p, e := learn.Likely(n, data); e != api.OK || p != lowest(likely(n, data)) {
			t.Errorf("%v: Likely: error %d", n.Parents, e)
		}
		m, e := learn.Improve(n, data)
		if e != api.OK {
			t.Fatalf("%v: Improve: error %d", n.Parents, e)
		}
		for v := range sizes {
			if !slices.Equal(m.Rows[v], improved(n, v, all, data)) {
				t.Errorf("%v: Improve: %d: %s", n.Parents, v, texts(m.Rows[v]))
			}
		}
		for i := range data {
			for v := range data[i] {
				data[i][v] = max(0, data[i][v])
			}
		}
		fitted, e := learn.Fit(sizes, n.Parents, data)
		for v := range sizes {
			if e != api.OK || !slices.Equal(fitted[v], counted(n, v, data)) {
				t.Errorf("%v: Fit: %d, error %d", n.Parents, v, e)
			}
		}
	}
}

// spoil writes into each list its own number: does one show another's?
func spoil(m [][]api.Frac) bool {
	for k, row := range m {
		_ = append(row, frac.Of(999))
		for i := range row {
			row[i] = frac.Of(k)
		}
	}
	for k, row := range m {
		if slices.ContainsFunc(row, func(f api.Frac) bool { return f != frac.Of(k) }) {
			return false
		}
	}
	return true
}

// spoilNames does so with the values and parents of a net.
func spoilNames(n api.Net) bool {
	for v, x := range n.Vars {
		_, _ = append(x.Values, "z"), append(n.Parents[v], 99)
		for i := range x.Values {
			x.Values[i] = fmt.Sprint("spoilt", v)
		}
		for i := range n.Parents[v] {
			n.Parents[v][i] = 100 + v
		}
	}
	for v, x := range n.Vars {
		if slices.ContainsFunc(x.Values, func(s string) bool { return s != fmt.Sprint("spoilt", v) }) || slices.ContainsFunc(n.Parents[v], func(u int) bool { return u != 100+v }) {
			return false
		}
	}
	return true
}

// P2: nothing that is handed in is written into, and what comes out is the caller's.
func TestFreshP2(t *testing.T) {
	each(t, 30, func(d *die, n api.Net, data [][]int) {
		before, seen := copied(n), fmt.Sprint(data)
		sizes := append(make([]int, 0, 20), net.Sizes(n)...)
		ask := func() ([][]api.Frac, api.Net, string) {
			l, e := learn.Fit(sizes, n.Parents, data)
			m, f := learn.Improve(n, data)
			p, g := learn.Likely(n, data)
			return l, m, fmt.Sprint(l, e, m, f, p, g)
		}
		l, m, text := ask()
		if !spoil(slices.Concat(l, m.Rows)) || !spoilNames(m) {
			t.Fatalf("%s: lists of one answer share memory", told(n, data))
		}
		for v := range m.Vars {
			m.Vars[v].Name = "spoilt"
		}
		_, _, again := ask()
		if again != text || !reflect.DeepEqual(n, before) || fmt.Sprint(data) != seen || !slices.Equal(sizes, net.Sizes(n)) {
			t.Fatalf("%s: what came out was not the caller's", told(n, data))
		}
		if slices.ContainsFunc(sizes[:20][len(sizes):], func(i int) bool { return i != 0 }) {
			t.Fatalf("%s: written behind the lists", told(n, data))
		}
	})
}

// Calls at the same time do not matter to each other.
func TestAtTheSameTime(t *testing.T) {
	n, data := parsed(t, pairText), [][]int{{-1, 0}, {-1, 1}, {0, 1}, {-1, -1}, {1, -1}}
	ask := func() string {
		p, e := learn.Likely(n, data)
		m, f := learn.Improve(n, data)
		return fmt.Sprint(p, e, m, f)
	}
	want := ask()
	got := make([]string, 16)
	var working sync.WaitGroup
	for i := range got {
		working.Add(1)
		go func() {
			defer working.Done()
			got[i] = ask()
		}()
	}
	working.Wait()
	for _, text := range got {
		if text != want {
			t.Fatalf("%s; %s is wanted", text, want)
		}
	}
}
