package debt

import (
	"cmp"
	"iter"
	"slices"

	"palfrey/api"
)

// pay is a payment.
type pay struct{ api.Debt }

func (p pay) compare(q pay) int {
	return cmp.Or(cmp.Compare(p.From, q.From), cmp.Compare(p.To, q.To), cmp.Compare(p.Pounds, q.Pounds))
}

// payment returns what x pays y, who pays it back if it is less than nothing.
func payment(x, y, pounds int) pay {
	if pounds < 0 {
		x, y, pounds = y, x, -pounds
	}
	return pay{api.Debt{From: x, To: y, Pounds: pounds}}
}

func paysOf(debts []api.Debt) []pay {
	var list []pay
	for _, d := range debts {
		list = append(list, pay{d})
	}
	return list
}

func debtsOf(pays []pay) []api.Debt {
	var list []api.Debt
	for _, p := range pays {
		list = append(list, p.Debt)
	}
	return list
}

// unsettled is what a set of pairs is left with that is not the one of a settlement.
type unsettled struct{}

func need(holds bool) {
	if !holds {
		panic(unsettled{})
	}
}

// settled returns the settlement with a payment for just each pair of the set, if there is one and the set has no circle: then no other one has these pairs.
func (w *work) settled(s pairs) (pays []pay, ok bool) {
	defer func() {
		switch r := recover().(type) {
		case nil:
		case unsettled:
			pays, ok = nil, false
		default:
			panic(r)
		}
	}()
	var seen [api.MaxPeople]bool
	// due is what the person, and all who are reached through them, are owed by the one they are reached from.
	var due func(p, from int) int
	due = func(p, from int) int {
		need(!seen[p])
		seen[p] = true
		all := w.net[p]
		for q := range w.Purses {
			if q == p || q == from || !s.has(p, q) {
				continue
			}
			pounds := due(q, p)
			need(pounds != 0)
			pays = append(pays, payment(p, q, pounds))
			all += pounds
		}
		return all
	}
	for p := range w.Purses {
		need(seen[p] || due(p, p) == 0)
	}
	slices.SortFunc(pays, pay.compare)
	return pays, true
}

// settlements yields all settlements without a circle, those with fewer payments first. They are enough for all that is asked: one with a circle has a payment more than one that it becomes if all payments around the circle are changed by as much, until one of them is none.
func (w *work) settlements() iter.Seq[[]pay] {
	return func(yield func([]pay) bool) {
		for s := range pairsOf(len(w.Purses)) {
			if pays, ok := w.settled(s); ok && !yield(pays) {
				return
			}
		}
	}
}

// fewest returns all settlements with the fewest payments, the first one first. There is one at least.
func (w *work) fewest() [][]pay {
	var list [][]pay
	for pays := range w.settlements() {
		if len(list) > 0 && len(pays) > len(list[0]) {
			break
		}
		list = append(list, pays)
	}
	slices.SortFunc(list, func(a, b []pay) int { return slices.CompareFunc(a, b, pay.compare) })
	return list
}

// verdict tells what some settlements with the fewest payments have and others do not as both at once: MayBe is Surely and Never together.
func (w *work) verdict(is func(p pay) bool) int {
	list := w.fewest()
	yes := 0
	for _, pays := range list {
		if slices.ContainsFunc(pays, is) {
			yes++
		}
	}
	v := 0
	switch {
	case yes == len(list):
		v = api.Surely
	case yes > 0:
		v = api.Surely
		fallthrough
	default:
		v |= api.Never
	}
	return v
}

func (w *work) apart(x, y int) (int, error) {
	for pays := range w.settlements() {
		if !slices.ContainsFunc(pays, func(p pay) bool { return pairOf(p.From, p.To) == pairOf(x, y) }) {
			return len(pays), nil
		}
	}
	return 0, fault{api.ErrVoid}
}
