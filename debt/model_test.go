package debt_test

import (
	"cmp"
	"slices"

	"palfrey/api"
)

// The model says in the plainest way what the chapter says, so that the package can be held against it.

func modelNet(list debts, person int) int {
	n := 0
	for _, d := range list {
		if d.To == person {
			n += d.Pounds
		}
		if d.From == person {
			n -= d.Pounds
		}
	}
	return n
}

func modelNets(o api.Owing) []int {
	var list []int
	for p := range o.Purses {
		list = append(list, modelNet(o.Debts, p))
	}
	return list
}

// modelOwes returns how many pounds x owes y.
func modelOwes(o api.Owing, x, y int) int {
	n := 0
	for _, d := range o.Debts {
		if d.From == x && d.To == y {
			n += d.Pounds
		}
	}
	return n
}

func compareDebts(a, b api.Debt) int {
	return cmp.Or(cmp.Compare(a.From, b.From), cmp.Compare(a.To, b.To), cmp.Compare(a.Pounds, b.Pounds))
}

func compareSettlements(a, b debts) int { return slices.CompareFunc(a, b, compareDebts) }

func modelMerge(o api.Owing) debts {
	var list debts
	for y := range o.Purses {
		for x := range y {
			a, b := modelOwes(o, x, y), modelOwes(o, y, x)
			if a > b {
				list = append(list, api.Debt{From: x, To: y, Pounds: a - b})
			}
			if a < b {
				list = append(list, api.Debt{From: y, To: x, Pounds: b - a})
			}
		}
	}
	slices.SortFunc(list, compareDebts)
	return list
}

// arrangements returns all lists of numbers less than n, none of them twice.
func arrangements(n int) [][]int {
	all := [][]int{nil}
	for i := 0; i < len(all); i++ {
		for p := range n {
			if !slices.Contains(all[i], p) {
				all = append(all, append(slices.Clone(all[i]), p))
			}
		}
	}
	return all
}

func compareRounds(a, b []int) int {
	return cmp.Or(cmp.Compare(len(a), len(b)), slices.Compare(a, b))
}

// modelCircles returns all circles of debts, the first one first.
func modelCircles(o api.Owing) [][]int {
	var all [][]int
	for _, l := range arrangements(len(o.Purses)) {
		round := len(l) > 0
		for i, p := range l {
			round = round && modelOwes(o, p, l[(i+1)%len(l)]) > 0
		}
		if round {
			all = append(all, l)
		}
	}
	slices.SortFunc(all, compareRounds)
	return all
}

// modelParts returns all ways to part so many persons, in lexicographic order.
func modelParts(people int) [][]int {
	all := [][]int{nil}
	for range people {
		var longer [][]int
		for _, l := range all {
			for g := range len(l) + 1 {
				if g == 0 || slices.Contains(l, g-1) {
					longer = append(longer, append(slices.Clone(l), g))
				}
			}
		}
		all = longer
	}
	return all
}

// modelBalanced tells whether the nets of each group are 0 together.
func modelBalanced(nets, groups []int) bool {
	for g := range groups {
		n := 0
		for p := range groups {
			if groups[p] == g {
				n += nets[p]
			}
		}
		if n != 0 {
			return false
		}
	}
	return true
}

func modelGroups(o api.Owing) []int {
	var best []int
	for _, l := range modelParts(len(o.Purses)) {
		if modelBalanced(modelNets(o), l) && (best == nil || slices.Max(l) > slices.Max(best)) {
			best = l
		}
	}
	return best
}

func modelRight(o api.Owing, pays debts) api.Errno {
	nobody := func(p int) bool { return p < 0 || p >= len(o.Purses) }
	if len(pays) > api.MaxPays {
		return api.ErrOver
	}
	for i, p := range pays {
		switch {
		case nobody(p.From) || nobody(p.To):
			return api.ErrNobody
		case p.From == p.To:
			return api.ErrClass
		case p.Pounds < 1 || p.Pounds > api.MaxPaid:
			return api.ErrFigure
		}
		for _, q := range pays[:i] {
			if q.From == p.From && q.To == p.To || q.From == p.To && q.To == p.From {
				return api.ErrTwin
			}
		}
	}
	for p := range o.Purses {
		if modelNet(pays, p) != modelNet(o.Debts, p) {
			return api.ErrFalse
		}
	}
	return api.OK
}

// modelSettlements returns all settlements of at most so many payments, each of at most so many pounds, in their order.
func modelSettlements(o api.Owing, most, pounds int) []debts {
	var all []debts
	var pair func(x, y int, pays debts)
	pair = func(x, y int, pays debts) {
		if y == len(o.Purses) {
			if modelNet(pays, x) != modelNet(o.Debts, x) {
				return
			}
			x, y = x+1, x+2
		}
		if x >= len(o.Purses)-1 {
			if modelRight(o, pays) == api.OK {
				pays = slices.Clone(pays)
				slices.SortFunc(pays, compareDebts)
				all = append(all, pays)
			}
			return
		}
		pair(x, y+1, pays)
		if len(pays) == most {
			return
		}
		for n := range pounds {
			pair(x, y+1, append(pays, api.Debt{From: x, To: y, Pounds: n + 1}))
			pair(x, y+1, append(pays, api.Debt{From: y, To: x, Pounds: n + 1}))
		}
	}
	pair(0, 1, nil)
	slices.SortFunc(all, compareSettlements)
	return all
}

// modelFewest returns those of the settlements with the fewest payments.
func modelFewest(all []debts) []debts {
	least := 99
	for _, pays := range all {
		least = min(least, len(pays))
	}
	return slices.DeleteFunc(slices.Clone(all), func(pays debts) bool { return len(pays) > least })
}

func modelPays(pays debts, x, y int) bool {
	return slices.ContainsFunc(pays, func(p api.Debt) bool { return p.From == x && p.To == y })
}

func modelVerdict(fewest []debts, x, y int) int {
	yes := 0
	for _, pays := range fewest {
		if modelPays(pays, x, y) {
			yes++
		}
	}
	switch yes {
	case len(fewest):
		return api.Surely
	case 0:
		return api.Never
	}
	return api.MayBe
}

func modelApart(all []debts, x, y int) (int, api.Errno) {
	least := 99
	for _, pays := range all {
		if !modelPays(pays, x, y) && !modelPays(pays, y, x) {
			least = min(least, len(pays))
		}
	}
	if least == 99 {
		return 0, api.ErrVoid
	}
	return least, api.OK
}

func total(list []int) int {
	n := 0
	for _, i := range list {
		n += i
	}
	return n
}

func modelPoor(o api.Owing) []int {
	var list []int
	for p, coins := range o.Purses {
		if total(coins)+modelNet(o.Debts, p) < 0 {
			list = append(list, p)
		}
	}
	return list
}

// modelMade tells whether the payments can be made one after the other, whichever coins are taken.
func modelMade(purses [][]int, pays debts) bool {
	if len(pays) == 0 {
		return true
	}
	p := pays[0]
	coins := purses[p.From]
	for bits := range 1 << len(coins) {
		var paid, kept []int
		for i, c := range coins {
			if bits>>i&1 == 1 {
				paid = append(paid, c)
			} else {
				kept = append(kept, c)
			}
		}
		if total(paid) != p.Pounds {
			continue
		}
		next := slices.Clone(purses)
		next[p.From], next[p.To] = kept, slices.Concat(purses[p.To], paid)
		if modelMade(next, pays[1:]) {
			return true
		}
	}
	return false
}

// inOrder returns the payments in the order.
func inOrder(pays debts, order []int) debts {
	var list debts
	for _, n := range order {
		list = append(list, pays[n])
	}
	return list
}

// modelOrders returns all orders in which the payments can be made, in lexicographic order.
func modelOrders(o api.Owing, pays debts) [][]int {
	var all [][]int
	for _, order := range arrangements(len(pays)) {
		if len(order) == len(pays) && modelMade(o.Purses, inOrder(pays, order)) {
			all = append(all, order)
		}
	}
	slices.SortFunc(all, slices.Compare)
	return all
}

func modelOrder(o api.Owing, pays debts) ([]int, api.Errno) {
	if all := modelOrders(o, pays); len(all) > 0 {
		return all[0], api.OK
	}
	return nil, api.ErrVoid
}

func modelExact(o api.Owing, fewest []debts) (debts, []int, api.Errno) {
	for _, pays := range fewest {
		if order, e := modelOrder(o, pays); e == api.OK {
			return pays, order, api.OK
		}
	}
	return nil, nil, api.ErrVoid
}

// sample is an owing, and what the model says of its settlements.
type sample struct {
	o           api.Owing
	all, fewest []debts
}

// sampleOf needs an owing in which nobody is owed much, or of few persons. More pounds than all that are owed only go round.
func sampleOf(o api.Owing) sample {
	pounds := 1
	for _, n := range modelNets(o) {
		pounds += max(n, 0)
	}
	if len(o.Purses) < 4 {
		pounds = api.MaxPaid
	}
	all := modelSettlements(o, len(o.Purses)-1, pounds)
	return sample{o, all, modelFewest(all)}
}

// dice are thrown the same way in each run.
type dice uint64

func (d *dice) roll(n int) int {
	*d ^= *d << 13
	*d ^= *d >> 7
	*d ^= *d << 17
	return int(uint64(*d) >> 11 % uint64(n))
}

func (d *dice) one(list []int) int { return list[d.roll(len(list))] }

// shuffled returns the numbers less than n in some order.
func (d *dice) shuffled(n int) []int {
	var list []int
	for i := range n {
		list = slices.Insert(list, d.roll(i+1), i)
	}
	return list
}

// debt returns a debt of at most so many pounds.
func (d *dice) debt(people, pounds int) api.Debt {
	from := d.roll(people)
	return api.Debt{From: from, To: (from + 1 + d.roll(people-1)) % people, Pounds: 1 + d.roll(pounds)}
}

func (d *dice) purse(most, pounds int) []int {
	var coins []int
	for range d.roll(most + 1) {
		coins = append(coins, 1+d.roll(pounds))
	}
	return coins
}

// owing returns one with so many debts, each of them and each coin of at most so many pounds.
func (d *dice) owing(people, many, pounds int) api.Owing {
	var o api.Owing
	for range people {
		o.Purses = append(o.Purses, d.purse(api.MaxCoins, pounds))
	}
	for range many {
		o.Debts = append(o.Debts, d.debt(people, pounds))
	}
	return o
}

// owings returns any ones.
func owings(many int) []api.Owing {
	d := dice(20261120)
	var list []api.Owing
	for i := range many {
		list = append(list, d.owing(2+i%4, d.roll(api.MaxDebts+1), []int{1, 2, 4, api.MaxDebt}[d.roll(4)]))
	}
	return list
}

// samples returns ones of which the model can tell all settlements in time.
func samples(many int) []sample {
	d := dice(1120)
	var list []sample
	for len(list) < many {
		people := 2 + len(list)%4
		o := d.owing(people, d.roll(api.MaxDebts+1), []int{9, 9, 3, 2}[people-2])
		owed := 0
		for _, n := range modelNets(o) {
			owed += max(n, 0)
		}
		if people < 4 || owed <= []int{8, 4}[people-4] {
			list = append(list, sampleOf(o))
		}
	}
	return list
}

// pays returns a settlement of the sample, its payments in some order.
func (s sample) pays(d *dice) debts {
	pays := s.all[d.roll(len(s.all))]
	return inOrder(pays, d.shuffled(len(pays)))
}
