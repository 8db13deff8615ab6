package cry

import (
	"errors"
	"slices"

	"palfrey/api"
	"palfrey/mark"
)

// unfit is an error of layer 1: of the fair, or of the horse of a cry.
type unfit struct{ why api.Errno }

func (u unfit) Error() string { return "layer 1: " + u.why.Error() }

var errNever = errors.New("the cry never comes")

// errnoOf needs nil, or an error that this package returns.
func errnoOf(err error) api.Errno {
	var layer1 unfit
	var own api.Errno
	switch {
	case err == nil:
		return api.OK
	case errors.Is(err, errNever):
		return api.ErrVoid
	case errors.As(err, &layer1):
		return layer1.why
	}
	errors.As(err, &own)
	return own
}

func need(holds bool, e api.Errno) error {
	if holds {
		return nil
	}
	return e
}

func within(n, from, to int) bool { return from <= n && n <= to }

func needHour(hour int) error { return need(within(hour, 0, api.MaxHour), api.ErrFigure) }

func needCry(w api.Watch, cry int) error {
	return need(within(cry, 0, len(w.Cries)-1), api.ErrNobody)
}

func needHorse(w api.Watch, horse int) error {
	return need(within(horse, 0, len(w.Fair.Entries)-1), api.ErrNobody)
}

func needTown(w api.Watch, town int) error {
	return need(within(town, 0, w.Towns-1), api.ErrNobody)
}

// firstError returns the first error that there is, if there is one.
func firstError(errs ...error) error {
	for _, err := range errs {
		if err != nil {
			return err
		}
	}
	return nil
}

// begin returns the watch at work, unless it has an error, or one of the needs has not been met.
func begin(w api.Watch, needs ...error) (*work, api.Errno) {
	if err := checkWatch(w); err != nil {
		return nil, errnoOf(err)
	}
	if err := firstError(needs...); err != nil {
		return nil, errnoOf(err)
	}
	return newWork(w), api.OK
}

func checkWatch(w api.Watch) error {
	if err := checkFair(w.Fair); err != nil {
		return err
	}
	if err := need(within(w.Towns, 1, api.MaxTowns), api.ErrFigure); err != nil {
		return err
	}
	if err := checkAll(w.Ways, api.MaxWays, func(way api.Way) error { return checkWay(w, way) }); err != nil {
		return err
	}
	if err := checkAll(w.Cries, api.MaxCries, func(c api.Cry) error { return checkCry(w, c) }); err != nil {
		return err
	}
	if len(w.Fair.Entries)+len(w.Cries) > api.MaxEntries {
		return api.ErrOver
	}
	return need(hasWay(bookOf(w.Fair, w.Fair.Entries, lost(w.Cries))), api.ErrFalse)
}

func checkFair(f api.Fair) error {
	if e := mark.Check(f); e != api.OK {
		return unfit{e}
	}
	return nil
}

func checkAll[T any](things []T, most int, check func(thing T) error) error {
	if len(things) > most {
		return api.ErrOver
	}
	for _, thing := range things {
		if err := check(thing); err != nil {
			return err
		}
	}
	return nil
}

func checkWay(w api.Watch, way api.Way) error {
	return firstError(
		needTown(w, way.A),
		needTown(w, way.B),
		need(way.A != way.B, api.ErrClass),
		need(within(way.Hours, 1, api.MaxRide), api.ErrFigure),
		needHour(way.Open.From),
		needHour(way.Open.To),
		need(way.Open.From <= way.Open.To, api.ErrTurn),
	)
}

// checkCry needs a fair that is valid: what is wrong with a book of one entry is wrong with this entry.
func checkCry(w api.Watch, c api.Cry) error {
	return firstError(
		checkFair(bookOf(w.Fair, []api.Entry{c.Lost})),
		needTown(w, c.Town),
		needHour(c.Hour),
		need(c.Hour >= c.Lost.Hour, api.ErrTurn),
	)
}

// clone copies all that a watch points to, too, so that no memory is shared.
func clone(w api.Watch) api.Watch {
	w.Fair.Roads = slices.Clone(w.Fair.Roads)
	for i, l := range w.Fair.Roads {
		w.Fair.Roads[i] = slices.Clone(l)
	}
	w.Fair.Entries = slices.Clone(w.Fair.Entries)
	for i, n := range w.Fair.Entries {
		w.Fair.Entries[i].Marks = slices.Clone(n.Marks)
	}
	w.Ways = slices.Clone(w.Ways)
	w.Cries = slices.Clone(w.Cries)
	for i, c := range w.Cries {
		w.Cries[i].Lost.Marks = slices.Clone(c.Lost.Marks)
	}
	return w
}
