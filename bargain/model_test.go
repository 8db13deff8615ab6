package bargain_test

import (
	"slices"

	"palfrey/api"
)

// The model says in the plainest way what the chapter says, so that the package can be held against it.

// spot is the prices, whose turn it is, and how often was stood last.
type spot struct{ ask, bid, turn, stands int }

func (s spot) over() bool { return s.ask == s.bid || s.stands == 2 }

// end is for a spot that is over.
func (s spot) end() int {
	if s.ask == s.bid {
		return s.ask
	}
	return -1
}

func (s spot) after(n int) spot {
	s.stands++
	if n != -1 {
		s.stands = 0
		if s.turn == api.SellerSide {
			s.ask = n
		} else {
			s.bid = n
		}
	}
	s.turn = 1 - s.turn
	return s
}

// spots returns the spot at first, and that after each number.
func spots(b api.Bargain) []spot {
	list := []spot{{b.Ask, b.Bid, b.First, 0}}
	for i, n := range b.Said {
		list = append(list, list[i].after(n))
	}
	return list
}

func last(b api.Bargain) spot { return spots(b)[len(b.Said)] }

// unlimited returns a limit that does not matter to the side.
func unlimited(side int) int { return []int{-99, 99}[side] }

// names returns the prices that can be named with the limit, the one closest to the side's own price first.
func names(b api.Bargain, s spot, limit int) []int {
	var list []int
	for step := b.Step.From; step <= b.Step.To; step++ {
		if price := s.ask - step; s.turn == api.SellerSide && price >= s.bid && price >= limit {
			list = append(list, price)
		}
		if price := s.bid + step; s.turn == api.BuyerSide && price <= s.ask && price <= limit {
			list = append(list, price)
		}
	}
	return list
}

// choices returns what can be said with the limit.
func choices(b api.Bargain, s spot, limit int) []int {
	if list := names(b, s, limit); len(list) > 0 {
		return list
	}
	return []int{-1}
}

func numbers(from, to int) []int {
	var list []int
	for n := from; n <= to; n++ {
		list = append(list, n)
	}
	return list
}

func within(b api.Bargain, side int) []int {
	r := []api.Range{b.Seller, b.Buyer}[side]
	return numbers(r.From, r.To)
}

// left returns the limits of the side with which it can say all that it said.
func left(b api.Bargain, side int) []int {
	all := spots(b)
	return slices.DeleteFunc(within(b, side), func(limit int) bool {
		for i, n := range b.Said {
			if all[i].turn == side && !slices.Contains(choices(b, all[i], limit), n) {
				return true
			}
		}
		return false
	})
}

func say(b api.Bargain, list ...int) api.Bargain {
	b.Said = slices.Concat(b.Said, list)
	return b
}

// cut returns the bargain after so many numbers.
func cut(b api.Bargain, many int) api.Bargain {
	b.Said = slices.Clone(b.Said[:many])
	return b
}

// refused returns why the number may not be said.
func refused(b api.Bargain, n int) api.Errno {
	s := last(b)
	switch {
	case s.over():
		return api.ErrShut
	case n < -1 || n > api.MaxPrice:
		return api.ErrFigure
	case n != -1 && !slices.Contains(names(b, s, unlimited(s.turn)), n):
		return api.ErrClass
	case len(left(say(b, n), s.turn)) == 0:
		return api.ErrFalse
	}
	return api.OK
}

// sayable returns all that may be said.
func sayable(b api.Bargain) []int {
	return slices.DeleteFunc(numbers(-1, api.MaxPrice), func(n int) bool { return refused(b, n) != api.OK })
}

// betterFor returns whether the price p is better for the side than q; to part is worse than any price.
func betterFor(side, p, q int) bool {
	if p == -1 || q == -1 {
		return p > q
	}
	return side == api.SellerSide && p > q || side == api.BuyerSide && p < q
}

func bestFor(side int, list []int) int {
	best := list[0]
	for _, p := range list {
		if betterFor(side, p, best) {
			best = p
		}
	}
	return best
}

// prices returns what the game is struck at after each of the numbers, if both do their best.
func prices(b api.Bargain, s spot, list []int, limits [2]int) []int {
	var all []int
	for _, n := range list {
		all = append(all, modelPrice(b, s.after(n), limits))
	}
	return all
}

func modelPrice(b api.Bargain, s spot, limits [2]int) int {
	if s.over() {
		return s.end()
	}
	return bestFor(s.turn, prices(b, s, choices(b, s, limits[s.turn]), limits))
}

func modelBest(b api.Bargain, limits [2]int) int {
	s := last(b)
	list := choices(b, s, limits[s.turn])
	all := prices(b, s, list, limits)
	return list[slices.Index(all, bestFor(s.turn, all))]
}

// pairs returns all pairs of limits that are left.
func pairs(b api.Bargain) [][2]int {
	var list [][2]int
	for _, l := range left(b, api.SellerSide) {
		for _, m := range left(b, api.BuyerSide) {
			list = append(list, [2]int{l, m})
		}
	}
	return list
}

// ordered returns the numbers, ascending, and each of them once.
func ordered(list []int) []int {
	l := slices.Clone(list)
	slices.Sort(l)
	return slices.Compact(l)
}

// modelOutcomes is for limits of the buyer that are greater by more.
func modelOutcomes(b api.Bargain, more int) []int {
	var list []int
	for _, l := range pairs(b) {
		list = append(list, modelPrice(b, last(b), [2]int{l[0], l[1] + more}))
	}
	return ordered(list)
}

func modelMeets(outcomes []int) int {
	switch {
	case outcomes[0] != -1:
		return api.Surely
	case len(outcomes) == 1:
		return api.Never
	}
	return api.MayBe
}

// ends returns what all games with the limits end in.
func ends(b api.Bargain, s spot, limits [2]int) []int {
	if s.over() {
		return []int{s.end()}
	}
	var list []int
	for _, n := range choices(b, s, limits[s.turn]) {
		list = append(list, ends(b, s.after(n), limits)...)
	}
	return ordered(list)
}

func modelReach(b api.Bargain) []int {
	var list []int
	for _, l := range pairs(b) {
		list = append(list, ends(b, last(b), l)...)
	}
	return ordered(list)
}

// modelSure lets the other side say whatever may be said.
func modelSure(b api.Bargain, side, limit int) int {
	s := last(b)
	if s.over() {
		return s.end()
	}
	list := sayable(b)
	if s.turn == side {
		list = choices(b, s, limit)
	}
	var all []int
	for _, n := range list {
		all = append(all, modelSure(say(b, n), side, limit))
	}
	if s.turn == side {
		return bestFor(side, all)
	}
	worst := all[0]
	for _, p := range all {
		if betterFor(side, worst, p) {
			worst = p
		}
	}
	return worst
}

func modelNarrowed(b api.Bargain) []int {
	var list []int
	for i := range b.Said {
		side := last(cut(b, i)).turn
		if len(left(cut(b, i+1), side)) < len(left(cut(b, i), side)) {
			list = append(list, i)
		}
	}
	return list
}

func modelPenny(b api.Bargain) (int, api.Errno) {
	for more := range api.MaxPrice + 1 {
		if modelOutcomes(b, more)[0] != -1 {
			return more, api.OK
		}
	}
	return 0, api.ErrVoid
}

// dice are thrown the same way in each run.
type dice uint64

func (d *dice) roll(n int) int {
	*d ^= *d << 13
	*d ^= *d >> 7
	*d ^= *d << 17
	return int(uint64(*d) >> 11 % uint64(n))
}

func (d *dice) one(list []int) int { return list[d.roll(len(list))] }

// within returns a range of from least to most.
func (d *dice) within(least, most int) api.Range {
	from := least + d.roll(most-least+1)
	return of(from, from+d.roll(most-from+1))
}

// fresh returns a bargain in which nothing was said.
func (d *dice) fresh() api.Bargain {
	bid := min(d.roll(api.MaxPrice), d.roll(api.MaxPrice))
	ask := bid + 1 + max(d.roll(api.MaxPrice-bid), d.roll(api.MaxPrice-bid))
	b := api.Bargain{Ask: ask, Bid: bid, First: d.roll(2), Step: d.within(1, api.MaxStep)}
	b.Seller, b.Buyer = d.within(0, ask), d.within(bid, api.MaxPrice)
	if d.roll(2) == 0 { // limits that have much to do with each other
		b.Seller, b.Buyer = d.within(bid, ask), d.within(bid, ask)
	}
	return b
}

// bargain returns one in which so many numbers were said, or fewer if it was over.
func (d *dice) bargain(many int) api.Bargain {
	b := d.fresh()
	for len(b.Said) < many {
		list := sayable(b)
		if len(list) == 0 {
			break
		}
		b = say(b, d.one(list))
	}
	return b
}

func samples(many int) []api.Bargain {
	d := dice(20261120)
	var list []api.Bargain
	for i := range many {
		list = append(list, d.bargain([]int{0, 1, 2, 3, 0, 2, 1, 24}[i%8]))
	}
	return list
}

func open(list []api.Bargain) []api.Bargain {
	return slices.DeleteFunc(list, func(b api.Bargain) bool { return last(b).over() })
}
