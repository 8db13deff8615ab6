package chain

import "palfrey/api"

// owners is the owner of each horse. It is copied as a value, can be compared, and be a key.
type owners [api.ChainHorses]int

func (o owners) with(horse, person int) owners {
	o[horse] = person
	return o
}

// list returns new memory, so that no two lists of owners share any.
func (o owners) list(horses int) []int {
	list := make([]int, horses)
	copy(list, o[:])
	return list
}

func (o owners) after() owners { return o }

// deed is what a deal does in a lot.
type deed interface {
	// after returns the owners after the deal.
	after() owners
}

type (
	sound  struct{ owners }
	broken struct{ owners }
)

// sell returns what the deal does if it is of the horse. Who owns a horse can be given it, and nothing changes.
func (o owners) sell(d api.Deal, horse int) deed {
	next := o.with(horse, d.Buyer)
	if o.with(horse, d.Seller) == o {
		return sound{next}
	}
	return broken{next}
}

// persons is a bit for each person who is among them.
type persons uint8

func (s persons) with(person int) persons { return s | 1<<person }

func (s persons) has(person int) bool { return s>>person&1 == 1 }

func join(hands ...int) persons {
	var s persons
	for _, p := range hands {
		s = s.with(p)
	}
	return s
}
