package debt

import (
	"iter"
	"math/bits"

	"palfrey/api"
)

// pairs is a set of two persons each.
type pairs uint

// The pairs of few persons are the first ones, so that all sets of them are the first numbers.
const (
	pair01 pairs = 1 << iota
	pair02
	pair12
	pair03
	pair13
	pair23
	pair04
	pair14
	pair24
	pair34
)

// pairOf needs two persons who are not the same.
func pairOf(x, y int) pairs {
	all := [api.MaxPeople][api.MaxPeople]pairs{
		{0, pair01, pair02, pair03, pair04},
		{pair01, 0, pair12, pair13, pair14},
		{pair02, pair12, 0, pair23, pair24},
		{pair03, pair13, pair23, 0, pair34},
		{pair04, pair14, pair24, pair34, 0},
	}
	return all[x][y]
}

func (s pairs) has(x, y int) bool { return s&pairOf(x, y) != 0 }

func (s pairs) with(x, y int) pairs { return s | pairOf(x, y) }

func (s pairs) count() int { return bits.OnesCount(uint(s)) }

// pairsOf yields all sets of pairs of so many persons that can be without a circle, those with fewer pairs first.
func pairsOf(people int) iter.Seq[pairs] {
	return func(yield func(pairs) bool) {
		for many := range people {
			for s := range pairs(1) << (people * (people - 1) / 2) {
				if s.count() == many && !yield(s) {
					return
				}
			}
		}
	}
}
