package frac

import (
	"strings"

	"augur/api"
	"augur/nat"
)

// Text is the fraction in digits.
func Text(f api.Frac) string {
	f = Canon(f)
	text := nat.Text(f.Num)
	if f.Neg {
		text = "-" + text
	}
	if nat.Cmp(f.Den, nat.Of(1)) != 0 {
		text += "/" + nat.Text(f.Den)
	}
	return text
}

// Parse reads n, n/m or n.d, a - ahead of it or not.
func Parse(s string) (api.Frac, api.Errno) {
	s, neg := strings.CutPrefix(s, "-")
	num, den, e := parseSize(s)
	if e != api.OK {
		return api.Frac{}, e
	}
	return Make(neg, num, den), api.OK
}

// parseSize reads what stands behind the sign.
func parseSize(s string) (num, den api.Nat, e api.Errno) {
	if ahead, behind, ok := strings.Cut(s, "/"); ok {
		return parseQuotient(ahead, behind)
	}
	if ahead, behind, ok := strings.Cut(s, "."); ok {
		return parseDecimal(ahead, behind)
	}
	num, e = nat.Parse(s)
	return num, nat.Of(1), e
}

func parseQuotient(ahead, behind string) (num, den api.Nat, e api.Errno) {
	if num, e = nat.Parse(ahead); e != api.OK {
		return "", "", e
	}
	if den, e = nat.Parse(behind); e != api.OK {
		return "", "", e
	}
	if isNought(den) {
		return "", "", api.ErrZero
	}
	return num, den, api.OK
}

// parseDecimal has a 1 ahead of the digits behind the point, as nat.Parse takes no nought there; with it they may be MaxDigits, so without it fewer.
func parseDecimal(ahead, behind string) (num, den api.Nat, e api.Errno) {
	whole, e := nat.Parse(ahead)
	if e != api.OK {
		return "", "", e
	}
	if behind == "" {
		return "", "", api.ErrForm
	}
	marked, e := nat.Parse("1" + behind)
	if e != api.OK {
		return "", "", e
	}
	den, _ = nat.Parse("1" + strings.Repeat("0", len(behind)))
	rest, _ := nat.Sub(marked, den)
	return nat.Add(nat.Mul(whole, den), rest), den, api.OK
}
