package chain

import (
	"augur/api"
	"augur/frac"
	"augur/nat"
)

// power reckons in whole numbers, and makes fractions of them at the end alone: to bring all of them into lowest terms at each step takes far longer.
func power(m [][]api.Frac, k int) [][]api.Frac {
	counts, of := inParts(m)
	whole := nat.Of(1)
	for range k {
		whole = nat.Mul(whole, of)
	}
	rows := make([][]api.Frac, len(m))
	for i := range rows {
		row := make([]api.Nat, len(m))
		row[i] = nat.Of(1)
		for range k {
			row = goOn(row, counts)
		}
		for _, count := range row {
			rows[i] = append(rows[i], frac.Make(false, count, whole))
		}
	}
	return rows
}

// inParts is how many parts of a row go to each state, where each row has so many parts.
func inParts(m [][]api.Frac) (counts [][]api.Nat, of api.Nat) {
	of = nat.Of(1)
	for _, row := range m {
		for _, f := range row {
			den := frac.Canon(f).Den
			lacking, _, _ := nat.Div(den, nat.Gcd(of, den))
			of = nat.Mul(of, lacking)
		}
	}
	counts = make([][]api.Nat, len(m))
	for i, row := range m {
		for _, f := range row {
			f = frac.Canon(f)
			size, _, _ := nat.Div(of, f.Den)
			counts[i] = append(counts[i], nat.Mul(f.Num, size))
		}
	}
	return counts, of
}

// goOn is one step on, of whole numbers.
func goOn(row []api.Nat, counts [][]api.Nat) []api.Nat {
	behind := make([]api.Nat, len(row))
	for i, count := range row {
		for j := range behind {
			behind[j] = nat.Add(behind[j], nat.Mul(count, counts[i][j]))
		}
	}
	return behind
}
