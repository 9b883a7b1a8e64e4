package draw_test

import (
	"fmt"
	"testing"

	"augur/api"
	"augur/draw"
	"augur/frac"
)

func part(t *testing.T, s string) api.Frac {
	t.Helper()
	f, e := frac.Parse(s)
	if e != api.OK {
		t.Fatal(s, e)
	}
	return f
}

// TestOutcomesM1: how many outcomes a draw has, what they are worth and how likely they are.
func TestOutcomesM1(t *testing.T) {
	pick := api.Draw{Kind: api.Pick, Values: []int{5, -3, 5}, Weights: []api.Frac{part(t, "1/2"), part(t, "0"), part(t, "1/2")}}
	for _, c := range []struct {
		d    api.Draw
		want string
	}{
		{api.Draw{Kind: api.Flip, P: part(t, "1/4")}, "0: 3/4, 1: 1/4, "},
		{api.Draw{Kind: api.Flip, P: part(t, "1")}, "0: 0, 1: 1, "},
		{api.Draw{Kind: api.Range, Lo: -1, Hi: 1}, "-1: 1/3, 0: 1/3, 1: 1/3, "},
		{api.Draw{Kind: api.Range, Lo: 7, Hi: 7}, "7: 1, "},
		{pick, "5: 1/2, -3: 0, 5: 1/2, "},
	} {
		got := ""
		chances := draw.Chances(c.d)
		for i := range draw.Outcomes(c.d) {
			got += fmt.Sprint(draw.Value(c.d, i), ": ", frac.Text(chances[i]), ", ")
		}
		if got != c.want || len(chances) != draw.Outcomes(c.d) {
			t.Errorf("%v: %s, not %s", c.d, got, c.want)
		}
	}
	if k := draw.Outcomes(api.Draw{}); k != 1 {
		t.Error("no draw:", k)
	}
	draw.Chances(pick)[0] = api.Frac{}
	if frac.Text(pick.Weights[0]) != "1/2" {
		t.Error("the weights are shared")
	}
}
