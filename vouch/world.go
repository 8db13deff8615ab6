package vouch

import (
	"cmp"
	"math/bits"
	"slices"

	"palfrey/api"
)

// set is numbers of persons, or of facts: a bit for each.
type set uint

// joined returns the numbers of all sets.
func joined(sets ...set) set {
	var all set
	for _, s := range sets {
		all |= s
	}
	return all
}

// single returns a set of one number.
func single(n int) set { return 1 << n }

// singles returns a set for each number less than many.
func singles(many int) []set {
	var list []set
	for n := range many {
		list = append(list, single(n))
	}
	return list
}

func setOf(numbers []int) set {
	var s set
	for _, n := range numbers {
		s |= single(n)
	}
	return s
}

// below returns the set of all numbers less than many.
func below(many int) set { return single(many) - 1 }

func (s set) has(n int) bool { return s&single(n) != 0 }

func (s set) size() int { return bits.OnesCount(uint(s)) }

// list returns the numbers of the set, ascending.
func (s set) list() []int {
	var list []int
	for n := range bits.Len(uint(s)) {
		if s.has(n) {
			list = append(list, n)
		}
	}
	return list
}

// compare follows the lexicographic order of lists, which is not the one of the bits.
func (s set) compare(t set) int { return slices.Compare(s.list(), t.list()) }

// world is the persons who are false, and the facts that are so.
type world struct{ liars, so set }

func (w world) compare(v world) int {
	return cmp.Or(
		cmp.Compare(w.liars.size(), v.liars.size()),
		slices.CompareFunc([]set{w.liars, w.so}, []set{v.liars, v.so}, set.compare),
	)
}

// given returns the world that an argument tells.
func (x *work) given(w api.World) world {
	return world{below(x.Persons) &^ setOf(w.True), setOf(w.So)}
}

// told returns the world as a result.
func (x *work) told(w world) api.World {
	return api.World{True: (below(x.Persons) &^ w.liars).list(), So: w.so.list()}
}
