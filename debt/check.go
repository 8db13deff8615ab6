package debt

import (
	"errors"

	"palfrey/api"
)

// fault is what is wrong with an argument, or that there is nothing to return.
type fault struct{ api.Errno }

func errnoOf(err error) api.Errno {
	var f fault
	if errors.As(err, &f) {
		return f.Errno
	}
	return api.OK
}

// ask returns what find finds in the owing, unless the owing has an error, or find returns one.
func ask[T any](o api.Owing, find func(w *work) (T, error)) (T, api.Errno) {
	var none T
	if err := checkOwing(o); err != nil {
		return none, errnoOf(err)
	}
	found, err := find(newWork(o))
	if err != nil {
		return none, errnoOf(err)
	}
	return found, api.OK
}

func outside(n, from, to int) bool { return n < from || n > to }

func checkOwing(o api.Owing) error {
	if len(o.Purses) < 2 {
		return fault{api.ErrUnder}
	}
	if len(o.Purses) > api.MaxPeople {
		return fault{api.ErrOver}
	}
	for _, coins := range o.Purses {
		if err := checkCoins(coins); err != nil {
			return err
		}
	}
	if len(o.Debts) > api.MaxDebts {
		return fault{api.ErrOver}
	}
	for _, d := range o.Debts {
		if err := checkDebt(d, len(o.Purses), api.MaxDebt); err != nil {
			return err
		}
	}
	return nil
}

func checkCoins(coins []int) error {
	if len(coins) > api.MaxCoins {
		return fault{api.ErrOver}
	}
	for _, c := range coins {
		if outside(c, 1, api.MaxCoin) {
			return fault{api.ErrFigure}
		}
	}
	return nil
}

func checkTwo(x, y, people int) error {
	if outside(x, 0, people-1) || outside(y, 0, people-1) {
		return fault{api.ErrNobody}
	}
	if x == y {
		return fault{api.ErrClass}
	}
	return nil
}

// checkDebt is for payments, too, which can be of more pounds.
func checkDebt(d api.Debt, people, most int) error {
	if err := checkTwo(d.From, d.To, people); err != nil {
		return err
	}
	if outside(d.Pounds, 1, most) {
		return fault{api.ErrFigure}
	}
	return nil
}

func (w *work) checkTwo(x, y int) error { return checkTwo(x, y, len(w.Purses)) }

func (w *work) checkPays(pays []api.Debt) error {
	if len(pays) > api.MaxPays {
		return fault{api.ErrOver}
	}
	var paid pairs
	for _, p := range pays {
		if err := checkDebt(p, len(w.Purses), api.MaxPaid); err != nil {
			return err
		}
		if paid.has(p.From, p.To) {
			return fault{api.ErrTwin}
		}
		paid = paid.with(p.From, p.To)
	}
	if netsOf(pays...) != w.net {
		return fault{api.ErrFalse}
	}
	return nil
}
