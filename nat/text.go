package nat

import (
	"strconv"
	"strings"

	"augur/api"
)

// A GROUP is as many digits as fit into a part.
const (
	groupDigits = 9
	groupBase   = 1000000000
)

// Text is the number in digits.
func Text(a api.Nat) string {
	groups := groupsOf(spread(a))
	if len(groups) == 0 {
		return "0"
	}
	var out strings.Builder
	for i := range groups {
		digits := strconv.FormatUint(uint64(groups[len(groups)-1-i]), 10)
		if i > 0 {
			out.WriteString(strings.Repeat("0", groupDigits-len(digits)))
		}
		out.WriteString(digits)
	}
	return out.String()
}

// groupsOf is the number's groups, the lowest first; its parts are used up.
func groupsOf(l []uint32) []uint32 {
	var groups []uint32
	for len(l) > 0 {
		groups = append(groups, divideByGroup(l))
		l = shorten(l)
	}
	return groups
}

// divideByGroup leaves the quotient in place of the number, and tells the rest.
func divideByGroup(l []uint32) uint32 {
	var rest uint64
	for i := range l {
		at := len(l) - 1 - i
		rest = rest<<partBits | uint64(l[at])
		l[at] = uint32(rest / groupBase)
		rest %= groupBase
	}
	return uint32(rest)
}

// Parse reads digits.
func Parse(s string) (api.Nat, api.Errno) {
	if !allDigits(s) || len(s) > 1 && s[0] == '0' {
		return "", api.ErrForm
	}
	if len(s) > api.MaxDigits {
		return "", api.ErrLimit
	}
	var l []uint32
	for i := range len(s) {
		l = appendDigit(l, s[i]-'0')
	}
	return gather(l), api.OK
}

func allDigits(s string) bool {
	for i := range len(s) {
		if s[i] < '0' || s[i] > '9' {
			return false
		}
	}
	return s != ""
}

// appendDigit is the number with a digit more behind it, in its place as far as that goes.
func appendDigit(l []uint32, digit byte) []uint32 {
	carry := uint64(digit)
	for i := range l {
		carry += uint64(l[i]) * 10
		l[i] = uint32(carry)
		carry >>= partBits
	}
	if carry > 0 {
		l = append(l, uint32(carry))
	}
	return l
}
