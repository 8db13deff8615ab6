package chain_test

import (
	"cmp"
	"slices"

	"palfrey/api"
)

// The model says in the plainest way what the chapter says, so that the package can be held against it.

// modelLots returns all lots, in lexicographic order.
func modelLots(t api.Trade) [][]int {
	lots := [][]int{nil}
	for _, d := range t.Deals {
		var longer [][]int
		for _, l := range lots {
			for _, h := range d.Horses {
				longer = append(longer, append(slices.Clone(l), h))
			}
		}
		lots = longer
	}
	return lots
}

// modelOwner returns who owns the horse before the deal of this number, or at dusk if it is the number of deals.
func modelOwner(t api.Trade, lot []int, horse, deal int) int {
	owner := t.Dawn[horse]
	for i := range deal {
		if lot[i] == horse {
			owner = t.Deals[i].Buyer
		}
	}
	return owner
}

func modelOwners(t api.Trade, lot []int) [][]int {
	var rows [][]int
	for deal := range len(t.Deals) + 1 {
		var row []int
		for horse := range t.Dawn {
			row = append(row, modelOwner(t, lot, horse, deal))
		}
		rows = append(rows, row)
	}
	return rows
}

func modelBroken(t api.Trade, lot []int) []int {
	var list []int
	for i, d := range t.Deals {
		if modelOwner(t, lot, lot[i], i) != d.Seller {
			list = append(list, i)
		}
	}
	return list
}

func modelBest(t api.Trade) (best [][]int, broken int) {
	broken = 99
	for _, l := range modelLots(t) {
		broken = min(broken, len(modelBroken(t, l)))
	}
	for _, l := range modelLots(t) {
		if len(modelBroken(t, l)) == broken {
			best = append(best, l)
		}
	}
	return best, broken
}

func modelVerdict(best [][]int, holds func(lot []int) bool) int {
	yes := 0
	for _, l := range best {
		if holds(l) {
			yes++
		}
	}
	switch yes {
	case len(best):
		return api.Surely
	case 0:
		return api.Never
	}
	return api.MayBe
}

func modelHands(t api.Trade, lot []int, horse int) []int {
	list := []int{t.Dawn[horse]}
	for i, d := range t.Deals {
		if lot[i] == horse {
			list = append(list, d.Buyer)
		}
	}
	return list
}

func modelChains(t api.Trade, best [][]int, horse int) [][]int {
	var all [][]int
	for _, l := range best {
		hands := modelHands(t, l, horse)
		if !slices.ContainsFunc(all, func(l []int) bool { return slices.Equal(l, hands) }) {
			all = append(all, hands)
		}
	}
	slices.SortFunc(all, slices.Compare)
	return all
}

// lists returns all ascending lists of numbers less than n, the shortest first, then in lexicographic order.
func lists(n int) [][]int {
	var all [][]int
	for bits := range 1 << n {
		var list []int
		for i := range n {
			if bits>>i&1 == 1 {
				list = append(list, i)
			}
		}
		all = append(all, list)
	}
	slices.SortFunc(all, func(a, b []int) int { return cmp.Or(cmp.Compare(len(a), len(b)), slices.Compare(a, b)) })
	return all
}

// without returns the trade without the deals of the list.
func without(t api.Trade, list []int) api.Trade {
	var rest []api.Deal
	for i, d := range t.Deals {
		if !slices.Contains(list, i) {
			rest = append(rest, d)
		}
	}
	t.Deals = rest
	return t
}

func modelSound(t api.Trade) bool {
	_, broken := modelBest(t)
	return broken == 0
}

func modelStruck(t api.Trade) []int {
	for _, list := range lists(len(t.Deals)) {
		if modelSound(without(t, list)) {
			return list
		}
	}
	return nil
}

// most returns of how many best lots the deal is of one and the same horse, at the most.
func most(best [][]int, deal int) int {
	n := 0
	for horse := range api.ChainHorses {
		lots := 0
		for _, l := range best {
			if l[deal] == horse {
				lots++
			}
		}
		n = max(n, lots)
	}
	return n
}

func modelSuit(t api.Trade, best [][]int) (deal, lots int, e api.Errno) {
	lots = len(best)
	for i := range t.Deals {
		if n := most(best, i); n < lots {
			deal, lots = i, n
		}
	}
	if lots == len(best) {
		return 0, 0, api.ErrVoid
	}
	return deal, lots, api.OK
}

func modelSettles(t api.Trade, best [][]int, list []int, horse int) bool {
	for i, a := range best {
		for _, b := range best[:i] {
			differ := slices.ContainsFunc(list, func(deal int) bool { return a[deal] != b[deal] })
			if !differ && modelOwner(t, a, horse, len(a)) != modelOwner(t, b, horse, len(b)) {
				return false
			}
		}
	}
	return true
}

func modelDecide(t api.Trade, best [][]int, horse int) []int {
	for _, list := range lists(len(t.Deals)) {
		if modelSettles(t, best, list, horse) {
			return list
		}
	}
	return nil
}

// then returns the trade with the deals behind its own ones.
func then(t api.Trade, deals ...api.Deal) api.Trade {
	t.Deals = slices.Concat(t.Deals, deals)
	return t
}

// sample is a trade, and what the model says of its lots.
type sample struct {
	t      api.Trade
	lots   [][]int
	best   [][]int
	broken int
}

func sampleOf(t api.Trade) sample {
	best, broken := modelBest(t)
	return sample{t, modelLots(t), best, broken}
}

// dice are thrown the same way in each run.
type dice uint64

func (d *dice) roll(n int) int {
	*d ^= *d << 13
	*d ^= *d >> 7
	*d ^= *d << 17
	return int(uint64(*d) >> 11 % uint64(n))
}

func (d *dice) one(list []int) int { return list[d.roll(len(list))] }

// shuffled returns the numbers less than n in some order.
func (d *dice) shuffled(n int) []int {
	var list []int
	for i := range n {
		list = slices.Insert(list, d.roll(i+1), i)
	}
	return list
}

// some returns horses, ascending, the given one among them.
func (d *dice) some(horse, horses int) []int {
	var list []int
	for h := range horses {
		if h == horse || d.roll(2) == 0 {
			list = append(list, h)
		}
	}
	return list
}

// other returns a person who is not this one.
func (d *dice) other(person, persons int) int { return (person + 1 + d.roll(persons-1)) % persons }

func (d *dice) morning(persons, horses int) api.Trade {
	t := api.Trade{Persons: persons}
	for range horses {
		t.Dawn = append(t.Dawn, d.roll(persons))
	}
	return t
}

// deal returns any deal, likely a broken one.
func (d *dice) deal(t api.Trade) api.Deal {
	seller := d.roll(t.Persons)
	return api.Deal{Seller: seller, Buyer: d.other(seller, t.Persons), Horses: d.some(d.roll(len(t.Dawn)), len(t.Dawn))}
}

// trade returns one with so many deals: of a day that was, but that each deal is any one, and not of it, with the chance of a number out of four.
func (d *dice) trade(persons, horses, deals, chance int) api.Trade {
	t := d.morning(persons, horses)
	now := slices.Clone(t.Dawn)
	for range deals {
		horse := d.roll(horses)
		next := api.Deal{Seller: now[horse], Buyer: d.other(now[horse], persons), Horses: d.some(horse, horses)}
		if d.roll(4) < chance {
			next = d.deal(t)
		} else {
			now[horse] = next.Buyer
		}
		t.Deals = append(t.Deals, next)
	}
	return t
}

func samples(many int) []sample {
	d := dice(20261120)
	var list []sample
	for i := range many {
		t := d.trade(2+d.roll(api.ChainPersons-1), 1+i%api.ChainHorses, d.roll(api.ChainDeals+1), d.roll(5))
		list = append(list, sampleOf(t))
	}
	return list
}
