package chain

import "palfrey/api"

// wrong is what a call panics with if an argument is wrong.
type wrong struct{ api.Errno }

func need(holds bool, e api.Errno) {
	if !holds {
		panic(wrong{e})
	}
}

func isOne(n, many int) bool { return 0 <= n && n < many }

func needOne(n, many int) { need(isOne(n, many), api.ErrNobody) }

func needLength(n, least, most int) {
	need(n >= least, api.ErrUnder)
	need(n <= most, api.ErrOver)
}

// ask returns what find finds in the trade, or else the error of the first argument that is wrong.
func ask[T any](t api.Trade, find func(w *work) T) (found T, e api.Errno) {
	defer func() {
		switch r := recover().(type) {
		case nil:
		case wrong:
			e = r.Errno
		default:
			panic(r)
		}
	}()
	checkTrade(t)
	return find(&work{t}), api.OK
}

func checkTrade(t api.Trade) {
	need(1 <= t.Persons && t.Persons <= api.ChainPersons, api.ErrFigure)
	needLength(len(t.Dawn), 1, api.ChainHorses)
	for _, p := range t.Dawn {
		needOne(p, t.Persons)
	}
	needLength(len(t.Deals), 0, api.ChainDeals)
	for _, d := range t.Deals {
		checkDeal(t, d)
	}
}

// checkDeal needs a trade of which persons and horses are right.
func checkDeal(t api.Trade, d api.Deal) {
	needOne(d.Seller, t.Persons)
	needOne(d.Buyer, t.Persons)
	need(d.Seller != d.Buyer, api.ErrTwin)
	needLength(len(d.Horses), 1, api.ChainHorses)
	for i, h := range d.Horses {
		needOne(h, len(t.Dawn))
		need(i == 0 || d.Horses[i-1] < h, api.ErrTurn)
	}
}

// given returns the list as a lot, if it is one.
func (w *work) given(list []int) lot {
	needLength(len(list), len(w.Deals), len(w.Deals))
	var l lot
	for i, h := range list {
		need(w.canBe(i, h), api.ErrClass)
		l[i] = h
	}
	return l
}
