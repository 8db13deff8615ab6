package bargain

import (
	"slices"

	"palfrey/api"
)

// met is the prices that were met, ascending, and parted before them. It is copied as a value.
type met struct {
	prices [api.MaxPrice + 2]int
	many   int
}

func (m met) with(price int) met {
	at, there := slices.BinarySearch(m.prices[:m.many], price)
	if there {
		return m
	}
	copy(m.prices[at+1:], m.prices[at:m.many])
	m.prices[at] = price
	m.many++
	return m
}

// list shares no memory with other lists: the array of m is a copy.
func (m met) list() []int { return m.prices[:m.many:m.many] }

// verdict tells what is struck in some cases and not in others as both at once: MayBe is Surely and Never together.
func (m met) verdict() int {
	v := 0
	switch {
	case m.prices[0] != parted:
		v = api.Surely
	case m.many > 1:
		v = api.Surely
		fallthrough
	default:
		v |= api.Never
	}
	return v
}
