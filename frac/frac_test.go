package frac_test

import (
	"fmt"
	"math"
	"math/big"
	"math/rand"
	"strings"
	"testing"

	"augur/api"
	"augur/frac"
	"augur/nat"
)

func toBig(a api.Nat) *big.Int {
	return new(big.Int).SetBytes([]byte(a))
}

func toRat(f api.Frac) *big.Rat {
	if toBig(f.Den).Sign() == 0 {
		return new(big.Rat)
	}
	r := new(big.Rat).SetFrac(toBig(f.Num), toBig(f.Den))
	if f.Neg {
		r.Neg(r)
	}
	return r
}

func ofRat(r *big.Rat) api.Frac {
	num := new(big.Int).Abs(r.Num())
	return api.Frac{Neg: r.Sign() < 0, Num: api.Nat(num.Bytes()), Den: api.Nat(r.Denom().Bytes())}
}

func tell(f api.Frac) string {
	return fmt.Sprintf("%v %x/%x", f.Neg, f.Num, f.Den)
}

// same: is it that fraction, to the byte: in lowest terms?
func same(t *testing.T, what string, got api.Frac, want *big.Rat) {
	t.Helper()
	if got != ofRat(want) {
		t.Errorf("%s: %s, %s is wanted", what, tell(got), want.RatString())
	}
}

// edges: noughts of all forms, whole numbers, fractions that are not in lowest terms, long ones; of both signs.
func edges() []api.Frac {
	parts := []api.Nat{"", "\x00", "\x00\x00\x00", "\x01", "\x00\x01", "\x02", "\x03", "\x00\x06", "\x0c", "\xff", "\x01\x00", "\x7f\xff\xff\xff",
		"\x80\x00\x00\x00\x00\x00\x00\x00", "\x00\xff\xff\xff\xff\xff\xff\xff\xff", "\x12\x34\x56\x78\x9a\xbc\xde\xf0\x12\x34\x56\x78\x9a\xbc\xde\xf0"}
	var list []api.Frac
	for _, num := range parts {
		for _, den := range parts {
			list = append(list, api.Frac{Num: num, Den: den}, api.Frac{Neg: true, Num: num, Den: den})
		}
	}
	return list
}

func drawn(count int) []api.Frac {
	r := rand.New(rand.NewSource(2))
	number := func() api.Nat {
		b := make([]byte, r.Intn(7))
		r.Read(b)
		return api.Nat(strings.Repeat("\x00", r.Intn(2)) + string(b))
	}
	list := make([]api.Frac, count)
	for i := range list {
		common := number()
		list[i] = api.Frac{Neg: r.Intn(2) == 0, Num: nat.Mul(number(), common), Den: nat.Mul(number(), common)}
	}
	return list
}

func eachPair(t *testing.T, check func(t *testing.T, a, b api.Frac)) {
	t.Helper()
	l := append(edges(), drawn(50)...)
	for _, a := range l {
		for _, b := range l {
			check(t, a, b)
			if t.Failed() {
				t.Fatalf("at %s and %s", tell(a), tell(b))
			}
		}
	}
}

func TestCanonF1(t *testing.T) {
	for _, f := range append(edges(), drawn(500)...) {
		same(t, "Canon "+tell(f), frac.Canon(f), toRat(f))
		same(t, "Make "+tell(f), frac.Make(f.Neg, f.Num, f.Den), toRat(f))
	}
}

func TestNoughtF1(t *testing.T) {
	nought := api.Frac{Den: "\x01"}
	for _, f := range []api.Frac{
		{}, {Neg: true}, {Den: "\x05"}, {Neg: true, Den: "\x05"}, {Num: "\x05"}, {Neg: true, Num: "\x05", Den: "\x00"},
		{Num: "\x00\x00", Den: "\x00\x01"}, {Neg: true, Num: "\x00", Den: "\x01"},
	} {
		if got := frac.Canon(f); got != nought {
			t.Errorf("Canon(%s): %s", tell(f), tell(got))
		}
		if got := frac.Make(f.Neg, f.Num, f.Den); got != nought {
			t.Errorf("Make(%s): %s", tell(f), tell(got))
		}
	}
	if got := frac.Sub(frac.Of(3), frac.Of(3)); got != nought {
		t.Errorf("Sub: %s", tell(got))
	}
}

func TestOfF1(t *testing.T) {
	for _, n := range []int{0, 1, -1, 2, -2, 255, 256, -255, -256, 1 << 32, -1 << 32, math.MaxInt, -math.MaxInt, math.MinInt} {
		same(t, fmt.Sprint("Of ", n), frac.Of(n), new(big.Rat).SetInt64(int64(n)))
	}
}

func TestAddF2(t *testing.T) {
	eachPair(t, func(t *testing.T, a, b api.Frac) {
		same(t, "Add", frac.Add(a, b), new(big.Rat).Add(toRat(a), toRat(b)))
	})
}

func TestSubF2(t *testing.T) {
	eachPair(t, func(t *testing.T, a, b api.Frac) {
		same(t, "Sub", frac.Sub(a, b), new(big.Rat).Sub(toRat(a), toRat(b)))
	})
}

func TestMulF2(t *testing.T) {
	eachPair(t, func(t *testing.T, a, b api.Frac) {
		same(t, "Mul", frac.Mul(a, b), new(big.Rat).Mul(toRat(a), toRat(b)))
	})
}

func TestDivF2(t *testing.T) {
	eachPair(t, func(t *testing.T, a, b api.Frac) {
		got, e := frac.Div(a, b)
		if toRat(b).Sign() == 0 {
			if e != api.ErrZero || !isNone(got) {
				t.Errorf("Div: %s, error %d; ErrZero is wanted", tell(got), e)
			}
			return
		}
		if e != api.OK {
			t.Errorf("Div: error %d", e)
		}
		same(t, "Div", got, new(big.Rat).Quo(toRat(a), toRat(b)))
	})
}

// isNone: what may stand beside an error (P1).
func isNone(f api.Frac) bool {
	return f == api.Frac{} || f == api.Frac{Den: "\x01"}
}

func TestCmpF2(t *testing.T) {
	eachPair(t, func(t *testing.T, a, b api.Frac) {
		if got, want := frac.Cmp(a, b), toRat(a).Cmp(toRat(b)); got != want {
			t.Errorf("Cmp: %d, %d is wanted", got, want)
		}
	})
}

func TestSumF2(t *testing.T) {
	same(t, "Sum of none", frac.Sum(nil), new(big.Rat))
	same(t, "Sum of none", frac.Sum([]api.Frac{}), new(big.Rat))
	same(t, "Sum of a nought", frac.Sum([]api.Frac{{}}), new(big.Rat))
	l := append(edges(), drawn(50)...)
	for count := range len(l) {
		if count > 20 && count < len(l)-1 {
			continue
		}
		want := new(big.Rat)
		for _, f := range l[len(l)-count:] {
			want.Add(want, toRat(f))
		}
		same(t, fmt.Sprint("Sum of ", count), frac.Sum(l[len(l)-count:]), want)
	}
}

// P2: what is handed in is not written into.
func TestSumLeavesItsList(t *testing.T) {
	l := []api.Frac{{Neg: true, Num: "\x00\x02", Den: "\x04"}, {}, {Num: "\x06", Den: "\x00\x03"}}
	before := append([]api.Frac{}, l...)
	frac.Sum(l)
	for i := range l {
		if l[i] != before[i] {
			t.Errorf("Sum wrote %s into its list in the place of %s", tell(l[i]), tell(before[i]))
		}
	}
}

func TestTextF3(t *testing.T) {
	for _, f := range append(edges(), drawn(500)...) {
		if got, want := frac.Text(f), toRat(f).RatString(); got != want {
			t.Errorf("Text(%s): %s, %s is wanted", tell(f), got, want)
		}
	}
	for want, f := range map[string]api.Frac{
		"0": {}, "5": {Num: "\x05", Den: "\x01"}, "-5": {Neg: true, Num: "\x05", Den: "\x00\x01"}, "1/2": {Num: "\x02", Den: "\x04"},
		"-3/2": {Neg: true, Num: "\x06", Den: "\x04"}, "2": {Num: "\x06", Den: "\x03"},
	} {
		if got := frac.Text(f); got != want {
			t.Errorf("Text(%s): %s, %s is wanted", tell(f), got, want)
		}
	}
}

func TestParseF3(t *testing.T) {
	full, most := strings.Repeat("7", api.MaxDigits), strings.Repeat("3", api.MaxDigits-1)
	for s, want := range map[string]string{
		"0": "0", "-0": "0", "5": "5", "-5": "-5", "1/2": "1/2", "2/4": "1/2", "-3/6": "-1/2", "0/7": "0", "-0/7": "0", "6/3": "2",
		"0.5": "1/2", "0.050": "1/20", "12.25": "49/4", "-0.125": "-1/8", "0.0": "0", "-0.00": "0", "1.0": "1", "-3.50": "-7/2", "0.001": "1/1000",
		"10.010": "1001/100", full: full, "-" + full: "-" + full, full + "/" + full: "1", "1/" + full: "1/" + full,
		full + ".0": full,
		"0." + strings.Repeat("0", api.MaxDigits-2) + "1": "1/1" + strings.Repeat("0", api.MaxDigits-1),
	} {
		if got, e := frac.Parse(s); e != api.OK || frac.Text(got) != want || got != frac.Canon(got) {
			t.Errorf("Parse(%s): %s, error %d; %s is wanted", s, tell(got), e, want)
		}
	}
	for _, s := range []string{"0." + most, full + "." + most, "-" + full + "." + most, "3.14159265358979323846"} {
		want, _ := new(big.Rat).SetString(s)
		got, e := frac.Parse(s)
		if e != api.OK {
			t.Errorf("Parse(%s): error %d", s, e)
		}
		same(t, "Parse "+s, got, want)
	}
	for _, f := range append(edges(), drawn(200)...) {
		if got, e := frac.Parse(frac.Text(f)); e != api.OK || got != frac.Canon(f) {
			t.Errorf("Parse of Text of %s: %s, error %d", tell(f), tell(got), e)
		}
	}
}

func TestParseFaultsF3(t *testing.T) {
	full := strings.Repeat("7", api.MaxDigits)
	long := full + "7"
	for e, texts := range map[api.Errno][]string{
		api.ErrForm: {
			"", "-", "--1", "+1", "- 1", " 1", "1 ", "01", "-01", "00", "x", "1x", "1-",
			"/", "1/", "/2", "1/x", "x/1", "x/0", "1/02", "01/2", "1/-2", "-/2", "1//2", "1/2/3", "1.5/2", "1/2.5", "./", "/.", "1/00", "01/0",
			".", ".5", "-.5", "5.", "1.x", "1.2.3", "1.5x", "00.5", "01.5", "1.-5", "1. 5", "1..5", "x.5", "0.\xff", "1.\u0661",
			// of two faults the one that is named first
			long + "x", "0." + full + "x", "x/" + long, "x." + full, "01." + full, "." + full,
		},
		api.ErrLimit: {
			long, "-" + long, long + "/2", "1/" + long, long + "/0", long + "/x", long + "/", long + ".5", long + ".", long + ".x",
			"0." + full, "-0." + full, "0." + long, full + "." + full, "0." + strings.Repeat("0", api.MaxDigits),
		},
		api.ErrZero: {"1/0", "0/0", "-1/0", "-0/0", full + "/0"},
	} {
		for _, s := range texts {
			if got, is := frac.Parse(s); is != e || !isNone(got) {
				t.Errorf("Parse(%q): %s, error %d; error %d is wanted", s, tell(got), is, e)
			}
		}
	}
}

func parse(t *testing.T, s string) api.Frac {
	t.Helper()
	f, e := frac.Parse(s)
	if e != api.OK {
		t.Fatalf("Parse(%s): error %d", s, e)
	}
	return f
}

func TestExample(t *testing.T) {
	if got := frac.Text(frac.Add(parse(t, "1/6"), parse(t, "0.25"))); got != "5/12" {
		t.Errorf("1/6 and 0.25 together: %s", got)
	}
	if got := frac.Text(frac.Sub(parse(t, "1/6"), parse(t, "1/2"))); got != "-1/3" {
		t.Errorf("1/6 less 1/2: %s", got)
	}
	if frac.Cmp(parse(t, "2/3"), parse(t, "0.6666")) != 1 {
		t.Error("2/3 is greater than 0.6666")
	}
}
