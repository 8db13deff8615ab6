package bargain

import (
	"errors"

	"palfrey/api"
)

func outside(n, from, to int) bool { return n < from || n > to }

func isSide(n int) bool { return n == api.SellerSide || n == api.BuyerSide }

func checkRange(r api.Range, from, to int) api.Errno {
	if outside(r.From, from, to) || outside(r.To, from, to) {
		return api.ErrFigure
	}
	if r.From > r.To {
		return api.ErrTurn
	}
	return api.OK
}

func checkPrices(b api.Bargain) api.Errno {
	if outside(b.Ask, 0, api.MaxPrice) || outside(b.Bid, 0, api.MaxPrice) {
		return api.ErrFigure
	}
	if b.Bid >= b.Ask {
		return api.ErrTurn
	}
	return api.OK
}

// checkBefore is for all but what was said.
func checkBefore(b api.Bargain) api.Errno {
	if e := checkPrices(b); e != api.OK {
		return e
	}
	if !isSide(b.First) {
		return api.ErrClass
	}
	if e := checkRange(b.Step, 1, api.MaxStep); e != api.OK {
		return e
	}
	if e := checkRange(b.Seller, 0, b.Ask); e != api.OK {
		return e
	}
	return checkRange(b.Buyer, b.Bid, api.MaxPrice)
}

// refusal is why a number may not be said.
type refusal struct{ api.Errno }

func errnoOf(err error) api.Errno {
	var r refusal
	if errors.As(err, &r) {
		return r.Errno
	}
	return api.OK
}

// begin returns the bargain at work, unless it has an error.
func begin(b api.Bargain) (*work, api.Errno) {
	if e := checkBefore(b); e != api.OK {
		return nil, e
	}
	if len(b.Said) > api.MaxSaid {
		return nil, api.ErrOver
	}
	w, err := newWork(b)
	if err != nil {
		return nil, errnoOf(err)
	}
	return w, api.OK
}

// beginOpen is begin for what can only be asked before the bargain is over.
func beginOpen(b api.Bargain) (*work, api.Errno) {
	w, e := begin(b)
	if e != api.OK {
		return nil, e
	}
	if w.now().over() {
		return nil, api.ErrShut
	}
	return w, api.OK
}
