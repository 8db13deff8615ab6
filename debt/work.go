package debt

import (
	"cmp"
	"iter"
	"slices"

	"palfrey/api"
)

// nets is the net of each person, and 0 behind the last one.
type nets [api.MaxPeople]int

func netsOf(debts ...api.Debt) nets {
	var n nets
	for _, d := range debts {
		n[d.From] -= d.Pounds
		n[d.To] += d.Pounds
	}
	return n
}

// work is an owing at work. It is not changed once it is made, so that goroutines can share it.
type work struct {
	api.Owing
	net nets
}

func newWork(o api.Owing) *work { return &work{o, netsOf(o.Debts...)} }

// with returns the owing with the debt behind its own ones. Without room behind them, append makes a new list.
func (w *work) with(d api.Debt) api.Owing {
	o := api.Owing{Debts: append(w.Debts[:len(w.Debts):len(w.Debts)], d)}
	for _, coins := range w.Purses {
		o.Purses = append(o.Purses, slices.Clone(coins))
	}
	return o
}

// owed returns how many pounds x owes y, whatever y owes x.
func (w *work) owed(x, y int) int {
	pounds := 0
	for _, d := range w.Debts {
		if d.From == x && d.To == y {
			pounds += d.Pounds
		}
	}
	return pounds
}

func (w *work) merged() []api.Debt {
	var list []api.Debt
	for x := range w.Purses {
		for y := range w.Purses {
			if more := w.owed(x, y) - w.owed(y, x); more > 0 {
				list = append(list, api.Debt{From: x, To: y, Pounds: more})
			}
		}
	}
	return list
}

// rounds yields all lists of two or more persons, none of them twice, those that are shorter first, and those of one length in lexicographic order.
func (w *work) rounds() iter.Seq[[]int] {
	return func(yield func([]int) bool) {
		var extend func(list []int, length int) bool
		extend = func(list []int, length int) bool {
			if len(list) == length {
				return yield(slices.Clone(list))
			}
			for p := range w.Purses {
				if !slices.Contains(list, p) && !extend(append(list, p), length) {
					return false
				}
			}
			return true
		}
		for length := 2; length <= len(w.Purses); length++ {
			if !extend(nil, length) {
				return
			}
		}
	}
}

func (w *work) circle() ([]int, error) {
search:
	for round := range w.rounds() {
		for i, p := range round {
			if w.owed(p, round[(i+1)%len(round)]) == 0 {
				continue search
			}
		}
		return round, nil
	}
	return nil, fault{api.ErrVoid}
}

// groups puts one person after the other into a group that there is, or into a new one. Of all ways to the same nets of the groups it goes on from the best one: whatever follows another one can follow this one, too.
func (w *work) groups() []int {
	ways := map[nets][]int{{}: nil}
	for p := range w.Purses {
		longer := map[nets][]int{}
		for sums, way := range ways {
			for g := range groupsIn(way) + 1 {
				next := sums
				next[g] += w.net[p]
				found := append(way[:p:p], g)
				if old, there := longer[next]; !there || compareWays(found, old) < 0 {
					longer[next] = found
				}
			}
		}
		ways = longer
	}
	return ways[nets{}]
}

func groupsIn(way []int) int {
	many := 0
	for _, g := range way {
		many = max(many, g+1)
	}
	return many
}

// compareWays says that the way with more groups comes first, and of two with as many the first one in lexicographic order.
func compareWays(a, b []int) int {
	return cmp.Or(cmp.Compare(groupsIn(b), groupsIn(a)), slices.Compare(a, b))
}

func sum(list ...int) int {
	all := 0
	for _, n := range list {
		all += n
	}
	return all
}

func (w *work) poor() []int {
	var list []int
	for p, coins := range w.Purses {
		if sum(coins...) < -w.net[p] {
			list = append(list, p)
		}
	}
	return list
}
