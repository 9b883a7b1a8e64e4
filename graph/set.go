package graph

import (
	"math/bits"

	"augur/api"
)

// set is some of the numbers 0 to MaxVars - 1: a bit for each.
type set uint32

// setOf is the set of a list: false, unless it rises, of numbers below count.
func setOf(l []int, count int) (set, bool) {
	var s set
	least := 0
	for _, v := range l {
		if v < least || v >= count {
			return 0, false
		}
		s, least = s.with(v), v+1
	}
	return s, true
}

func setsOf(l [][]int, count int) ([]set, bool) {
	sets := make([]set, len(l))
	for i := range l {
		s, ok := setOf(l[i], count)
		if !ok {
			return nil, false
		}
		sets[i] = s
	}
	return sets, true
}

func (s set) has(v int) bool {
	return s>>v&1 == 1
}

func (s set) with(v int) set {
	return s | 1<<v
}

func (s set) without(v int) set {
	return s &^ (1 << v)
}

func (s set) holds(part set) bool {
	return part&^s == 0
}

func (s set) count() int {
	return bits.OnesCount32(uint32(s))
}

// each goes through the set, rising.
func (s set) each(yield func(v int) bool) {
	for v := range api.MaxVars {
		if s.has(v) && !yield(v) {
			return
		}
	}
}

func (s set) list() []int {
	l := make([]int, 0, s.count())
	for v := range s.each {
		l = append(l, v)
	}
	return l
}

func lists(sets []set) [][]int {
	l := make([][]int, len(sets))
	for i, s := range sets {
		l[i] = s.list()
	}
	return l
}
