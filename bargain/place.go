package bargain

import "palfrey/api"

// place is a place in the game: all of the past that matters from then on. It can be compared, and be a key.
type place struct {
	ask, bid, turn int
	stands         int       // how often was stood last, one directly after the other
	seller, buyer  api.Range // the limits that are left
}

func (p place) side() side { return sideOf(p.turn) }

func (p place) over() bool { return p.ask == p.bid || p.stands == 2 }

// price needs a game that is over.
func (p place) price() int {
	if p.ask == p.bid {
		return p.ask
	}
	return parted
}

func (p place) lowered(step int) int { return p.ask - step }

func (p place) raised(step int) int { return p.bid + step }

// closer returns how the side's price comes closer by a step.
func (p place) closer(s side) func(step int) int {
	switch s.(type) {
	case seller:
		return p.lowered
	default:
		return p.raised
	}
}

func (p place) withAsk(price int) place {
	p.ask = price
	return p
}

func (p place) withBid(price int) place {
	p.bid = price
	return p
}

func (p place) withPrice(s side, price int) place {
	put := place.withBid
	if _, sells := s.(seller); sells {
		put = place.withAsk
	}
	return put(p, price)
}

func (p place) left(s side) api.Range {
	if _, sells := s.(seller); sells {
		return p.seller
	}
	return p.buyer
}

func (p place) withLeft(s side, left api.Range) place {
	switch s.(type) {
	case seller:
		p.seller = left
	default:
		p.buyer = left
	}
	return p
}

func (p place) leaves(s side, limit int) bool {
	left := p.left(s)
	return !outside(limit, left.From, left.To)
}

func (p place) withLimit(s side, limit int) place {
	return p.withLeft(s, api.Range{From: limit, To: limit})
}
