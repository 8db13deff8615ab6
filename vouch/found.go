package vouch

import (
	"cmp"
	"iter"

	"palfrey/api"
)

// worlds is some of all worlds, each with what is heard in it.
type worlds map[world]world

func (l worlds) each(tell func(w world)) {
	for w := range l {
		tell(w)
	}
}

// where returns those worlds in which something holds.
func (l worlds) where(holds func(w world) bool) worlds {
	part := worlds{}
	for w, heard := range l {
		if holds(w) {
			part[w] = heard
		}
	}
	return part
}

func (l worlds) verdict(holds func(w world) bool) int {
	switch len(l.where(holds)) {
	case len(l):
		return api.Surely
	case 0:
		return api.Never
	}
	return api.MayBe
}

// first is the first one of things: of several that are equal the one that was offered first.
type first[T any] struct {
	compare func(a, b T) int
	thing   T
	found   bool
}

func (f *first[T]) offer(thing T) {
	if !f.found || f.compare(thing, f.thing) < 0 {
		f.thing, f.found = thing, true
	}
}

func (f *first[T]) get() T {
	need(f.found, api.ErrVoid)
	return f.thing
}

func (l worlds) first() world {
	f := first[world]{compare: world.compare}
	l.each(f.offer)
	return f.get()
}

func (l worlds) liars() api.Range {
	r := api.Range{From: api.VouchPersons}
	for w := range l {
		r = api.Range{From: min(r.From, w.liars.size()), To: max(r.To, w.liars.size())}
	}
	return r
}

// best returns the worlds with the fewest false persons.
func (l worlds) best() worlds {
	fewest := l.liars().From
	return l.where(func(w world) bool { return w.liars.size() == fewest })
}

// settled tells whether worlds in which the same ones of the persons are true agree on the fact.
func (l worlds) settled(persons set, fact int) bool {
	known := map[set]bool{}
	for w := range l {
		told, so := w.liars&persons, w.so.has(fact)
		if before, there := known[told]; there && before != so {
			return false
		}
		known[told] = so
	}
	return true
}

// lists yields all lists of the things, in the order of these: those that are shorter first, and those of one length in lexicographic order.
func lists[T any](things ...T) iter.Seq[[]T] {
	return func(yield func(list []T) bool) {
		var extend func(list []T, from, more int) bool
		extend = func(list []T, from, more int) bool {
			if more == 0 {
				return yield(list)
			}
			for i := from; i < len(things); i++ {
				if !extend(append(list[:len(list):len(list)], things[i]), i+1, more-1) {
					return false
				}
			}
			return true
		}
		for length := range len(things) + 1 {
			if !extend(nil, 0, length) {
				return
			}
		}
	}
}

// silent finds a list at the latest when all words are left out.
func (x *work) silent() []int {
	var words []int
search:
	for list := range lists(below(len(x.Words)).list()...) {
		rest := x.without(list...)
		for w := range rest.all() {
			if rest.heard(w) == w {
				words = list
				break search
			}
		}
	}
	return words
}

// question is a person of whom it should be found out whether it is true, and how many worlds remain then at most.
type question struct{ person, worlds int }

func (q question) compare(p question) int { return cmp.Compare(q.worlds, p.worlds) }

func (x *work) bestQuestion() question {
	can := x.known()
	f := first[question]{compare: question.compare}
	for p := range x.Persons {
		yes := len(can.where(honest{p}.isSo))
		f.offer(question{p, max(yes, len(can)-yes)})
	}
	q := f.get()
	need(q.worlds < len(can), api.ErrVoid)
	return q
}

func (x *work) proof(fact int) set {
	can := x.known()
	for persons := range lists(singles(x.Persons)...) {
		if p := joined(persons...); can.settled(p, fact) {
			return p
		}
	}
	panic(wrong{api.ErrVoid})
}
