package bargain

import "palfrey/api"

const (
	stand  = -1 // what is said by a side that names no price
	parted = -1 // stands for the price if none is struck
)

// side is what the seller and the buyer see the other way round.
type side interface {
	better(a, b int) bool
	// named returns those of the limits with which the price can be named.
	named(left api.Range, price int) api.Range
	// unable returns those of the limits with which the price cannot be named.
	unable(left api.Range, price int) api.Range
}

type (
	seller struct{}
	buyer  struct{}
)

func sideOf(turn int) side {
	if turn == api.SellerSide {
		return seller{}
	}
	return buyer{}
}

// better needs no case for those who part: that is less than any price.
func (seller) better(a, b int) bool { return a > b }

func (buyer) better(a, b int) bool {
	if a == parted || b == parted {
		return a > b
	}
	return a < b
}

func (seller) named(left api.Range, price int) api.Range {
	return api.Range{From: left.From, To: min(left.To, price)}
}

func (buyer) named(left api.Range, price int) api.Range {
	return api.Range{From: max(left.From, price), To: left.To}
}

func (seller) unable(left api.Range, price int) api.Range {
	return api.Range{From: max(left.From, price+1), To: left.To}
}

func (buyer) unable(left api.Range, price int) api.Range {
	return api.Range{From: left.From, To: min(left.To, price-1)}
}
