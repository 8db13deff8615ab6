package tooth

import (
	"slices"

	"palfrey/api"
)

// least keeps all that costs least, in the order in which it was offered.
type least[T any] struct {
	all  []T
	cost int
}

func (l *least[T]) offer(value T, cost int) {
	if len(l.all) > 0 && cost > l.cost {
		return
	}
	if cost < l.cost {
		l.all = nil
	}
	l.all, l.cost = append(l.all, value), cost
}

// chance is whether looks can be explained, and by how few filings.
type chance struct {
	can     bool
	filings int
}

func (c chance) within(filings int) bool { return c.can && c.filings <= filings }

// and returns the zero chance if one of both cannot be: chances of which the same is known are equal.
func (c chance) and(d chance) chance {
	if !c.can || !d.can {
		return chance{}
	}
	return chance{true, c.filings + d.filings}
}

// known is what can be known of a year: of each mouth then, the chance of the looks from this year on.
type known [api.ToothMouths]chance

// best returns those of the mouths that need the fewest filings.
func (k known) best(list []int) least[int] {
	var l least[int]
	for _, m := range list {
		if k[m].can {
			l.offer(m, k[m].filings)
		}
	}
	return l
}

// sight is how a look comes about.
type sight interface{ filings() int }

type (
	honest struct{}
	filed  struct{}
)

func (honest) filings() int { return 0 }

func (filed) filings() int { return 1 }

// sight returns nil if the mouth cannot be seen so.
func (j jaw) sight(l api.Look, mouth int) sight {
	if mouth == l.Seen {
		return honest{}
	}
	if slices.Contains(j.Filed[mouth], l.Seen) {
		return filed{}
	}
	return nil
}

// work is a jaw and looks at work. It is not changed once it is made, so that goroutines can share it.
type work struct {
	jaw
	looks []api.Look
	last  int // the year of the last look, wherever it stands in the list
	years [api.ToothYear + 1]known
	ages  [api.ToothAge + 1]chance
	best  least[int] // the ages of the best truths
}

func newWork(j api.Jaw, looks []api.Look) *work {
	w := &work{jaw: jaw{j}, looks: looks}
	for _, l := range looks {
		w.last = max(w.last, l.Year)
	}
	w.knowYears()
	w.knowAges()
	return w
}

func (w *work) isTrue() bool { return len(w.best.all) > 0 }

// knowYears goes back from the year behind all looks, of which nothing is known: any mouth can be.
func (w *work) knowYears() {
	var k known
	for m := range w.Next {
		k[m].can = true
	}
	for ago := range len(w.years) {
		year := api.ToothYear - ago
		k = w.before(k)
		for m := range w.Next {
			k[m] = k[m].and(w.seen(year, m))
		}
		w.years[year] = k
	}
}

// knowAges goes on back from the year 0: a horse of an age had the mouth 0 as many years before it. Once nothing changes, all greater ages have the same chance.
func (w *work) knowAges() {
	k, changes := w.years[0], true
	for age := range w.ages {
		w.ages[age] = k[0]
		if k[0].can {
			w.best.offer(age, k[0].filings)
		}
		if changes {
			b := w.before(k)
			changes = b != k
			k = b
		}
	}
}

// before returns what k says of the year before it, if there is no look in that one.
func (w *work) before(k known) known {
	var b known
	for m, list := range w.Next {
		next := k.best(list)
		b[m] = chance{len(next.all) > 0, next.cost}
	}
	return b
}

// seen returns the chance of the looks of the year alone.
func (w *work) seen(year, mouth int) chance {
	c := chance{can: true}
	for _, l := range w.looks {
		if l.Year == year {
			c = c.and(w.chance(l, mouth))
		}
	}
	return c
}

func (w *work) chance(l api.Look, mouth int) chance {
	s := w.sight(l, mouth)
	if s == nil {
		return chance{}
	}
	return chance{true, s.filings()}
}

// merge returns all looks. The third index keeps those of the other lists from being written behind the first one, which is an argument.
func merge(all []api.Look, others ...[]api.Look) []api.Look {
	for _, list := range others {
		all = append(all[:len(all):len(all)], list...)
	}
	return all
}
