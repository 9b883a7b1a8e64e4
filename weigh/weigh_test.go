package weigh_test

import (
	"fmt"
	"testing"

	"augur/api"
	"augur/frac"
	"augur/nat"
	"augur/weigh"
)

func part(t *testing.T, s string) api.Frac {
	t.Helper()
	f, e := frac.Parse(s)
	if e != api.OK {
		t.Fatal(s, e)
	}
	return f
}

// TestShareM3: the least whole of which all outcomes have whole parts.
func TestShareM3(t *testing.T) {
	pick := api.Draw{Kind: api.Pick, Values: []int{5, -3, 5, 4}, Weights: []api.Frac{part(t, "1/6"), part(t, "0"), part(t, "1/4"), part(t, "7/12")}}
	for _, c := range []struct {
		d    api.Draw
		want string
	}{
		{api.Draw{Kind: api.Flip, P: part(t, "1/4")}, "4: 3 1"},
		{api.Draw{Kind: api.Flip, P: part(t, "1")}, "1: 0 1"},
		{api.Draw{Kind: api.Range, Lo: -1, Hi: 1}, "3: 1 1 1"},
		{api.Draw{Kind: api.Range, Lo: 7, Hi: 7}, "1: 1"},
		{pick, "12: 2 0 3 7"},
	} {
		s := weigh.ShareOf(c.d)
		got := nat.Text(s.Whole) + ":"
		for _, p := range s.Parts {
			got += " " + nat.Text(p)
		}
		if got != c.want {
			t.Errorf("%v: %s, not %s", c.d, got, c.want)
		}
	}
}

// TestTallyM3: values rise, those of 0 are left out, and each is told in lowest terms.
func TestTallyM3(t *testing.T) {
	var sums weigh.Tally
	for i, o := range []api.Outcome{{Kind: api.Valued, Value: 999}, {Kind: api.Lost}, {Kind: api.Valued, Value: -999}, {Kind: api.Stuck}, {Kind: api.Valued, Value: 999}, {Kind: api.Valued}, {Kind: api.Lost}} {
		sums.Add(o, nat.Of(i+1))
	}
	sums.Add(api.Outcome{Kind: api.Valued, Value: 7}, nat.Of(0))
	a := sums.Answer(nat.Of(28))
	got := ""
	for _, x := range a.Points {
		got += fmt.Sprint(x.Value, ": ", frac.Text(x.P), ", ")
	}
	got += frac.Text(a.Stuck) + " " + frac.Text(a.Lost)
	if want := "-999: 3/28, 0: 3/14, 999: 3/14, 1/7 9/28"; got != want {
		t.Errorf("%s, not %s", got, want)
	}
	none := new(weigh.Tally).Answer(nat.Of(3))
	if len(none.Points) > 0 || frac.Text(none.Stuck)+frac.Text(none.Lost) != "00" {
		t.Error(none)
	}
}
