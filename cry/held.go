package cry

import (
	"iter"
	"slices"

	"palfrey/api"
)

func (x *work) isHeld(hour, horse int) bool { return len(x.reasons(hour, horse)) > 0 }

// held returns the horses that are held at the hour.
func (x *work) held(hour int) set {
	return those(len(x.Fair.Entries), func(horse int) bool { return x.isHeld(hour, horse) })
}

// spans yields the ranges of hours at which the horse is held, ascending.
func (x *work) spans(horse int) iter.Seq[api.Range] {
	return func(yield func(r api.Range) bool) {
		from := late
		for hour := range api.MaxHour + 1 {
			if x.isHeld(hour, horse) {
				from = min(from, hour)
				continue
			}
			if from < hour && !yield(api.Range{From: from, To: hour - 1}) {
				return
			}
			from = late
		}
		if from <= api.MaxHour {
			yield(api.Range{From: from, To: api.MaxHour})
		}
	}
}

// tally is how many hours there are in ranges.
type tally struct{ hours int }

func (t *tally) add(r api.Range) { t.hours += r.To - r.From + 1 }

func (x *work) hours() int {
	var t tally
	count := t.add
	for horse := range x.Fair.Entries {
		for r := range x.spans(horse) {
			count(r)
		}
	}
	return t.hours
}

func (x *work) found(cry int) (hour, horse int, e api.Errno) {
	e = api.ErrVoid
	proof := func(r reason) bool { return proves(r, cry) }
hours:
	for h := range api.MaxHour + 1 {
		for n := range x.Fair.Entries {
			if slices.ContainsFunc(x.reasons(h, n), proof) {
				hour, horse, e = h, n, api.OK
				break hours
			}
		}
	}
	return hour, horse, e
}

func (x *work) verdict(cry int) (int, error) {
	if _, err := x.arrival(cry); err != nil {
		return 0, err
	}
	if !x.accused(cry) {
		return api.Never, nil
	}
	elsewhere := func(s set) bool { return s.has(cry) && x.alone(s) }
	if slices.ContainsFunc(crySets(), elsewhere) {
		return api.MayBe, nil
	}
	return api.Surely, nil
}

// accused tells whether some horse may be the one of the cry at the end.
func (x *work) accused(cry int) bool {
	for horse := range x.Fair.Entries {
		if slices.ContainsFunc(x.reasons(api.MaxHour, horse), func(r reason) bool { return r.about() == cry }) {
			return true
		}
	}
	return false
}

// alone tells whether, in some way of the book at the end, a horse has the entries of just these cries: they can be one horse, and the others can be parted into the horses that are left.
func (x *work) alone(cries set) bool {
	k := x.knownAt(api.MaxHour)
	if !cries.isPartOf(k.cries) {
		return false
	}
	own, others := x.book(known{cries: cries}), x.book(known{k.entries, k.cries &^ cries})
	own.Most, others.Most = 1, x.Fair.Most-1
	return hasWay(own) && hasWay(others)
}

func (x *work) settled() int {
	end, from := x.held(api.MaxHour), 0
	for hour := range api.MaxHour {
		if x.held(hour) != end {
			from = hour + 1
		}
	}
	return from
}

// heldWith returns the horses that would be held at the end if there were just these cries.
func (x *work) heldWith(cries set) set {
	before := x.there
	defer func() { x.there = before }()
	x.there = cries
	return x.held(api.MaxHour)
}

func (x *work) needed() set {
	held := x.held(api.MaxHour)
	enough := func(s set) bool { return s.isPartOf(x.there) && x.heldWith(s) == held }
	return firstOf(crySets(), wish[set]{enough})
}
