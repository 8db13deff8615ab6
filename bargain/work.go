package bargain

import (
	"iter"
	"slices"

	"palfrey/api"
)

// work is a bargain at work. It is not changed once it is made, so that goroutines can share it.
type work struct {
	api.Bargain
	places []place // the one at first, then the one after each number that was said
}

func newWork(b api.Bargain) (*work, error) {
	p := place{ask: b.Ask, bid: b.Bid, turn: b.First, seller: b.Seller, buyer: b.Buyer}
	w := &work{Bargain: b, places: []place{p}}
	for _, n := range b.Said {
		next, err := w.say(w.now(), n)
		if err != nil {
			return nil, err
		}
		w.places = append(w.places, next)
	}
	return w, nil
}

func (w *work) now() place { return w.places[len(w.places)-1] }

// with returns the place now if the limits are these.
func (w *work) with(sells, buys int) (place, api.Errno) {
	p := w.now()
	if !p.leaves(seller{}, sells) || !p.leaves(buyer{}, buys) {
		return place{}, api.ErrFalse
	}
	return p.withLimit(seller{}, sells).withLimit(buyer{}, buys), api.OK
}

// names returns the prices that can be named if limits do not matter, the one closest to the side's own price first.
func (w *work) names(p place) []int {
	var list []int
	closer := p.closer(p.side())
	for i := range w.Step.To - w.Step.From + 1 {
		if price := closer(w.Step.From + i); !outside(price, p.bid, p.ask) {
			list = append(list, price)
		}
	}
	return list
}

// say returns the place after the number is said, or a refusal.
func (w *work) say(p place, n int) (place, error) {
	if p.over() {
		return place{}, refusal{api.ErrShut}
	}
	if n != stand && outside(n, 0, api.MaxPrice) {
		return place{}, refusal{api.ErrFigure}
	}
	names := w.names(p)
	if n != stand && !slices.Contains(names, n) {
		return place{}, refusal{api.ErrClass}
	}
	next := p.after(n, names)
	if left := next.left(p.side()); left.From > left.To {
		return place{}, refusal{api.ErrFalse}
	}
	return next, nil
}

// after returns the place after the number is said instead of all that could be named.
func (p place) after(n int, names []int) place {
	s := p.side()
	left := p.left(s)
	next := p
	next.turn = api.SellerSide + api.BuyerSide - p.turn
	if n != stand {
		next.stands = 0
		return next.withPrice(s, n).withLeft(s, s.named(left, n))
	}
	next.stands++
	if len(names) == 0 {
		return next
	}
	// Who cannot name the price that is closest to their own one can name none.
	return next.withLeft(s, s.unable(left, names[0]))
}

// ended is what a game panics with if it is to go on and is over.
type ended struct{ price int }

// plays yields each number that may be said, prices first, and the place after it.
func (w *work) plays(p place) iter.Seq2[int, place] {
	return func(yield func(int, place) bool) {
		if p.over() {
			panic(ended{p.price()})
		}
		for _, n := range append(w.names(p), stand) {
			next, err := w.say(p, n)
			if err == nil && !yield(n, next) {
				return
			}
		}
	}
}

func (w *work) narrowed() []int {
	var list []int
	for i, p := range w.places[1:] {
		before := w.places[i]
		if s := before.side(); p.left(s) != before.left(s) {
			list = append(list, i)
		}
	}
	return list
}
