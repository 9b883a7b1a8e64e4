package nat_test

import (
	"bytes"
	"encoding/hex"
	"math"
	"math/big"
	"math/rand"
	"strings"
	"testing"

	"augur/api"
	"augur/nat"
)

func toBig(a api.Nat) *big.Int {
	return new(big.Int).SetBytes([]byte(a))
}

func ofBig(n *big.Int) api.Nat {
	return api.Nat(n.Bytes())
}

func power(base, exponent int64) *big.Int {
	return new(big.Int).Exp(big.NewInt(base), big.NewInt(exponent), nil)
}

// edges: numbers beside those at which a byte, a part or a word is full, and such that a division guesses wrong.
func edges() []api.Nat {
	list := []api.Nat{"", "\x00", "\x00\x00\x00\x00\x00", "\x01", "\x00\x01", "\x02", "\x03", "\x0a"}
	for _, bits := range []int64{8, 16, 24, 31, 32, 33, 63, 64, 65, 96, 127, 128, 160, 1000} {
		for _, step := range []int64{-1, 0, 1} {
			list = append(list, ofBig(new(big.Int).Add(power(2, bits), big.NewInt(step))))
		}
	}
	for _, digits := range []int64{8, 9, 10, 18, 19, 20, 27, 100} {
		list = append(list, ofBig(power(10, digits)), ofBig(new(big.Int).Sub(power(10, digits), big.NewInt(1))))
	}
	for _, s := range []string{
		"80000000ffffffff", "80000000ffffffffffffffff", "7fffffffffffffffffffffff", "7fffffff800000000000000000000000",
		"800000000000000000000003", "000003000000000000000080", "80000000fffffffe00000000", "0000000000000000ffffffff",
	} {
		b, _ := hex.DecodeString(s)
		list = append(list, api.Nat(b))
	}
	return list
}

// drawn: numbers of many lengths, with runs of full and of empty bytes, some with noughts ahead; the same each time.
func drawn(count int) []api.Nat {
	r := rand.New(rand.NewSource(1))
	list := make([]api.Nat, count)
	for i := range list {
		b := make([]byte, r.Intn(50))
		fill := r.Intn(4)
		for k := range b {
			switch fill {
			case 0:
				b[k] = byte(r.Intn(256))
			case 1:
				b[k] = byte(255 * r.Intn(2))
			case 2:
				b[k] = byte(255 * (k / 4 % 2))
			default:
				b[k] = []byte{0, 1, 127, 128, 254, 255}[r.Intn(6)]
			}
		}
		list[i] = api.Nat(strings.Repeat("\x00", r.Intn(3)) + string(b))
	}
	return list
}

func eachPair(t *testing.T, check func(t *testing.T, a, b api.Nat)) {
	t.Helper()
	l := append(edges(), drawn(150)...)
	for _, a := range l {
		for _, b := range l {
			check(t, a, b)
			if t.Failed() {
				t.Fatalf("at %x and %x", a, b)
			}
		}
	}
}

// same: is it that number, to the byte: without noughts ahead?
func same(t *testing.T, what string, got api.Nat, want *big.Int) {
	t.Helper()
	if got != ofBig(want) {
		t.Errorf("%s: %x, %x is wanted", what, got, want.Bytes())
	}
}

func TestTrimN1(t *testing.T) {
	for a, want := range map[api.Nat]api.Nat{
		"": "", "\x00": "", "\x00\x00\x00": "", "\x01": "\x01", "\x00\x01": "\x01", "\x01\x00": "\x01\x00",
		"\x00\x00\xff\x00\x00": "\xff\x00\x00", "\x00\x30": "0", "0": "0", "\x00\xc3\xa4": "\xc3\xa4",
	} {
		if got := nat.Trim(a); got != want {
			t.Errorf("Trim(%x): %x, %x is wanted", a, got, want)
		}
	}
	for _, a := range append(edges(), drawn(300)...) {
		same(t, "Trim", nat.Trim(a), toBig(a))
	}
}

func TestOfN1(t *testing.T) {
	for n, want := range map[int]api.Nat{
		0: "", 1: "\x01", 255: "\xff", 256: "\x01\x00", 65535: "\xff\xff", 65536: "\x01\x00\x00", 1 << 32: "\x01\x00\x00\x00\x00",
		-1: "", -5: "", -256: "", math.MinInt: "", math.MaxInt: "\x7f\xff\xff\xff\xff\xff\xff\xff",
	} {
		if got := nat.Of(n); got != want {
			t.Errorf("Of(%d): %x, %x is wanted", n, got, want)
		}
	}
}

func TestIntN1(t *testing.T) {
	for a, want := range map[api.Nat]int{
		"": 0, "\x00\x00": 0, "\x07": 7, "\x00\x07": 7, "\x01\x00": 256, "\x01\x02\x03": 66051,
		"\x7f\xff\xff\xff\xff\xff\xff\xff":                             math.MaxInt,
		"\x00\x00\x00\x7f\xff\xff\xff\xff\xff\xff\xff":                 math.MaxInt,
		"\x00\x00\x00\x00\x00\x00\x00\x00\x00\x00\x00\x00\x00\x05":     5,
		"\x00\x00\x00\x00\x00\x00\x00\x00\x00\x00\x80\x00\x00\x00":     1 << 31,
		"\x00\x00\x00\x00\x00\x00\x00\x00\x00\x00\x01\x00\x00\x00\x00": 1 << 32,
	} {
		if n, ok := nat.Int(a); n != want || !ok {
			t.Errorf("Int(%x): %d, %v; %d is wanted", a, n, ok, want)
		}
	}
	for _, a := range []api.Nat{
		"\x80\x00\x00\x00\x00\x00\x00\x00", "\x00\x80\x00\x00\x00\x00\x00\x00\x00", "\xff\xff\xff\xff\xff\xff\xff\xff",
		"\x01\x00\x00\x00\x00\x00\x00\x00\x00", "\x01\x00\x00\x00\x00\x00\x00\x00\x05", "\x01\x7f\xff\xff\xff\xff\xff\xff\xff",
	} {
		if n, ok := nat.Int(a); n != 0 || ok {
			t.Errorf("Int(%x): %d, %v; 0 and false are wanted", a, n, ok)
		}
	}
}

func TestCmpN2(t *testing.T) {
	eachPair(t, func(t *testing.T, a, b api.Nat) {
		if got, want := nat.Cmp(a, b), toBig(a).Cmp(toBig(b)); got != want {
			t.Errorf("Cmp: %d, %d is wanted", got, want)
		}
	})
}

func TestAddN2(t *testing.T) {
	eachPair(t, func(t *testing.T, a, b api.Nat) {
		same(t, "Add", nat.Add(a, b), new(big.Int).Add(toBig(a), toBig(b)))
	})
}

func TestSubN2(t *testing.T) {
	eachPair(t, func(t *testing.T, a, b api.Nat) {
		got, ok := nat.Sub(a, b)
		want := new(big.Int).Sub(toBig(a), toBig(b))
		if ok != (want.Sign() >= 0) {
			t.Errorf("Sub: %v", ok)
		}
		if want.Sign() < 0 {
			want = new(big.Int)
		}
		same(t, "Sub", got, want)
	})
}

func TestMulN2(t *testing.T) {
	eachPair(t, func(t *testing.T, a, b api.Nat) {
		same(t, "Mul", nat.Mul(a, b), new(big.Int).Mul(toBig(a), toBig(b)))
	})
}

func TestDivN2(t *testing.T) {
	eachPair(t, func(t *testing.T, a, b api.Nat) {
		q, r, ok := nat.Div(a, b)
		quotient, rest := new(big.Int), new(big.Int)
		if toBig(b).Sign() != 0 {
			quotient.QuoRem(toBig(a), toBig(b), rest)
		}
		if ok != (toBig(b).Sign() != 0) {
			t.Errorf("Div: %v", ok)
		}
		same(t, "Div: quotient", q, quotient)
		same(t, "Div: rest", r, rest)
	})
}

// Quotients all of whose parts are full or empty, and rests beside 0 and the divisor: where a guess goes wrong most.
func TestDivBackN2(t *testing.T) {
	l := append(edges(), drawn(100)...)
	for _, b := range l {
		for _, q := range l {
			if toBig(b).Sign() == 0 {
				continue
			}
			for _, r := range []*big.Int{new(big.Int), new(big.Int).Sub(toBig(b), big.NewInt(1))} {
				a := new(big.Int).Mul(toBig(b), toBig(q))
				quotient, rest, ok := nat.Div(ofBig(a.Add(a, r)), b)
				if !ok {
					t.Fatalf("Div(%x, %x): false", a.Bytes(), b)
				}
				same(t, "Div: quotient", quotient, toBig(q))
				same(t, "Div: rest", rest, r)
			}
		}
	}
}

func TestGcdN2(t *testing.T) {
	eachPair(t, func(t *testing.T, a, b api.Nat) {
		same(t, "Gcd", nat.Gcd(a, b), new(big.Int).GCD(nil, nil, toBig(a), toBig(b)))
	})
}

func TestGcdOfMultiplesN2(t *testing.T) {
	l := drawn(40)
	for _, a := range l {
		for _, b := range l {
			x, y := nat.Mul(a, l[3]), nat.Mul(b, l[3])
			same(t, "Gcd", nat.Gcd(x, y), new(big.Int).GCD(nil, nil, toBig(x), toBig(y)))
		}
	}
}

// The longest way that a division goes round: numbers of which each is the sum of the two ahead.
func TestGcdOfNeighboursN2(t *testing.T) {
	a, b := nat.Of(1), nat.Of(1)
	for range 1000 {
		a, b = b, nat.Add(a, b)
		if nat.Gcd(a, b) != "\x01" || nat.Gcd(b, a) != "\x01" {
			t.Fatalf("Gcd(%x, %x) is not 1", a, b)
		}
	}
}

func TestTextN3(t *testing.T) {
	for a, want := range map[api.Nat]string{"": "0", "\x00\x00": "0", "\x09": "9", "\x0a": "10", "\x00\x64": "100"} {
		if got := nat.Text(a); got != want {
			t.Errorf("Text(%x): %s, %s is wanted", a, got, want)
		}
	}
	for _, a := range append(edges(), drawn(500)...) {
		if got, want := nat.Text(a), toBig(a).String(); got != want {
			t.Errorf("Text(%x): %s, %s is wanted", a, got, want)
		}
	}
	for k := range 120 {
		if got, want := nat.Text(ofBig(power(10, int64(k)))), "1"+strings.Repeat("0", k); got != want {
			t.Errorf("Text: %s, %s is wanted", got, want)
		}
	}
}

func TestParseN3(t *testing.T) {
	good := []string{"0", "1", "9", "10", "255", "256", "999999999", "1000000000", "1000000001", "4294967295", "4294967296", "18446744073709551616",
		strings.Repeat("1234567890", 40), strings.Repeat("9", 400), "1" + strings.Repeat("0", 399)}
	for _, s := range good {
		want, _ := new(big.Int).SetString(s, 10)
		got, e := nat.Parse(s)
		if e != api.OK {
			t.Errorf("Parse(%s): error %d", s, e)
		}
		same(t, "Parse "+s, got, want)
	}
	for _, a := range edges() {
		got, e := nat.Parse(nat.Text(a))
		if e != api.OK || got != nat.Trim(a) {
			t.Errorf("Parse of Text of %x: %x, error %d", a, got, e)
		}
	}
}

func TestParseFaultsN3(t *testing.T) {
	long := strings.Repeat("9", api.MaxDigits)
	faults := map[string]api.Errno{
		"": api.ErrForm, "00": api.ErrForm, "01": api.ErrForm, "0123": api.ErrForm, "-1": api.ErrForm, "+1": api.ErrForm, "-0": api.ErrForm,
		" 1": api.ErrForm, "1 ": api.ErrForm, "1\n": api.ErrForm, "1.0": api.ErrForm, "1/2": api.ErrForm, "1_0": api.ErrForm, "0x1": api.ErrForm,
		"1e3": api.ErrForm, "a": api.ErrForm, "1a": api.ErrForm, "/": api.ErrForm, ":": api.ErrForm, "1\x00": api.ErrForm, "\xff": api.ErrForm,
		"\u0661": api.ErrForm, "1\u0662": api.ErrForm,
		long + "9":                     api.ErrLimit,
		long + long:                    api.ErrLimit,
		"1" + strings.Repeat("0", 400): api.ErrLimit,
		// of two faults the one that is named first
		long + "9x":              api.ErrForm,
		"x" + long + "9":         api.ErrForm,
		"0" + long:               api.ErrForm,
		strings.Repeat("0", 401): api.ErrForm,
	}
	for s, want := range faults {
		if got, e := nat.Parse(s); e != want || got != "" {
			t.Errorf("Parse(%q): %x, error %d; error %d is wanted", s, got, e, want)
		}
	}
}

func TestExample(t *testing.T) {
	n, e := nat.Parse("123456789012345678901234567890")
	b, _ := hex.DecodeString("018ee90ff6c373e0ee4e3f0ad2")
	if e != api.OK || !bytes.Equal([]byte(n), b) {
		t.Errorf("Parse: %x, error %d", n, e)
	}
	q, r, ok := nat.Div(n, nat.Of(1000000007))
	if !ok || nat.Text(q) != "123456788148148161864" || nat.Text(r) != "197434842" {
		t.Errorf("Div: %s, %s, %v", nat.Text(q), nat.Text(r), ok)
	}
	if g := nat.Gcd(nat.Of(84), nat.Of(36)); nat.Text(g) != "12" {
		t.Errorf("Gcd: %s", nat.Text(g))
	}
}

// Numbers of many thousands of bytes (P1: every call ends).
func TestLong(t *testing.T) {
	a := api.Nat("\x00\x00" + strings.Repeat("\xfe\x01\x00\xff\xff\x80\x7f", 3000))
	b := api.Nat(strings.Repeat("\x00\xff\xff\xff\xff\x80", 1500))
	same(t, "Add", nat.Add(a, b), new(big.Int).Add(toBig(a), toBig(b)))
	same(t, "Mul", nat.Mul(a, b), new(big.Int).Mul(toBig(a), toBig(b)))
	q, r, ok := nat.Div(a, b)
	quotient, rest := new(big.Int).QuoRem(toBig(a), toBig(b), new(big.Int))
	if !ok {
		t.Error("Div: false")
	}
	same(t, "Div: quotient", q, quotient)
	same(t, "Div: rest", r, rest)
	same(t, "Gcd", nat.Gcd(a, b), new(big.Int).GCD(nil, nil, toBig(a), toBig(b)))
	if nat.Text(a) != toBig(a).String() {
		t.Error("Text")
	}
}
