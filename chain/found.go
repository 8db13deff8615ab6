package chain

import (
	"iter"
	"slices"

	"palfrey/api"
)

// fewest keeps all that cost the fewest, in the order in which they were offered.
type fewest[T any] struct {
	all  []T
	cost int
}

func (f *fewest[T]) offer(v T, cost int) {
	if len(f.all) > 0 && cost > f.cost {
		return
	}
	if cost < f.cost {
		f.all = nil
	}
	f.all, f.cost = append(f.all, v), cost
}

// verdict tells what holds in some best lots and not in others as both at once: MayBe is Surely and Never together.
func (w *work) verdict(holds func(l lot) bool) int {
	best := w.best().all
	yes := 0
	for _, l := range best {
		if holds(l) {
			yes++
		}
	}
	v := 0
	switch {
	case yes == len(best):
		v = api.Surely
	case yes > 0:
		v = api.Surely
		fallthrough
	default:
		v |= api.Never
	}
	return v
}

func (w *work) hands(l lot, horse int) []int {
	list := []int{w.Dawn[horse]}
	for i, d := range w.Deals {
		if l[i] == horse {
			list = append(list, d.Buyer)
		}
	}
	return list
}

func (w *work) chains(horse int) [][]int {
	var all [][]int
	for _, l := range w.best().all {
		all = append(all, w.hands(l, horse))
	}
	slices.SortFunc(all, slices.Compare)
	return slices.CompactFunc(all, slices.Equal)
}

// sales returns how many deals are of the horse, at the least and at the most.
func (w *work) sales(horse int) api.Range {
	r := api.Range{From: len(w.Deals)}
	for _, hands := range w.chains(horse) {
		deals := len(hands) - 1
		r = api.Range{From: min(r.From, deals), To: max(r.To, deals)}
	}
	return r
}

// lists yields all ascending lists of numbers less than n, those that are shorter first, and those of one length in lexicographic order.
func lists(n int) iter.Seq[[]int] {
	return func(yield func([]int) bool) {
		var extend func(list []int, least, more int) bool
		extend = func(list []int, least, more int) bool {
			if more == 0 {
				return yield(slices.Clone(list))
			}
			for i := least; i < n; i++ {
				if !extend(append(list, i), i+1, more-1) {
					return false
				}
			}
			return true
		}
		for length := range n + 1 {
			if !extend(nil, 0, length) {
				return
			}
		}
	}
}

// first returns the first of all that holds. There must be one.
func first[T any](all iter.Seq[T], holds func(v T) bool) T {
	var found T
	for v := range all {
		if holds(v) {
			found = v
			break
		}
	}
	return found
}

// struck finds a list at the latest when all deals are struck out.
func (w *work) struck() []int {
	return first(lists(len(w.Deals)), func(list []int) bool { return w.without(list).isSound() })
}

// suit is a deal that should be settled, and how many best lots remain then at most.
type suit struct{ deal, lots int }

func (w *work) bestSuit() suit {
	best := w.best().all
	var f fewest[int]
	for i := range w.Deals {
		var of [api.ChainHorses]int
		for _, l := range best {
			of[l[i]]++
		}
		f.offer(i, slices.Max(of[:]))
	}
	need(len(f.all) > 0 && f.cost < len(best), api.ErrVoid)
	return suit{f.all[0], f.cost}
}

// ends returns the best lots by the owners that they end with.
func (w *work) ends() map[owners][]lot {
	ends := map[owners][]lot{}
	for _, l := range w.best().all {
		o := w.dusk(l)
		ends[o] = append(ends[o], l)
	}
	return ends
}

// decide finds a list at the latest when all deals are settled: then there is one lot.
func (w *work) decide(horse int) []int {
	ends := w.ends()
	return first(lists(len(w.Deals)), func(list []int) bool { return settle(ends, list, horse) })
}

// settle tells whether lots in which the deals of the list are of the same horses end with the same owner of the horse.
func settle(ends map[owners][]lot, list []int, horse int) bool {
	known := map[lot]int{}
	for o, lots := range ends {
		for _, l := range lots {
			told := l.only(list)
			if owner, there := known[told]; there && owner != o[horse] {
				return false
			}
			known[told] = o[horse]
		}
	}
	return true
}
