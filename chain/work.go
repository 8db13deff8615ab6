package chain

import (
	"iter"
	"slices"
	"sync"

	"palfrey/api"
)

// work is a trade at work. It is not changed once it is made, so that goroutines can share it.
type work struct{ api.Trade }

// lot is the horse of each deal, and 0 behind the last one.
type lot [api.ChainDeals]int

// only returns the lot as far as it is told by the deals of the list.
func (l lot) only(list []int) lot {
	var part lot
	for _, i := range list {
		part[i] = l[i]
	}
	return part
}

func (w *work) canBe(deal, horse int) bool { return slices.Contains(w.Deals[deal].Horses, horse) }

// lots yields, in lexicographic order, all lots that begin with start.
func (w *work) lots(start ...int) iter.Seq[lot] {
	return func(yield func(lot) bool) {
		var l lot
		copy(l[:], start)
		var choose func(deal int) bool
		choose = func(deal int) bool {
			if deal == len(w.Deals) {
				return yield(l)
			}
			for _, h := range w.Deals[deal].Horses {
				l[deal] = h
				if !choose(deal + 1) {
					return false
				}
			}
			return true
		}
		choose(len(start))
	}
}

func (w *work) dawn() owners {
	var o owners
	copy(o[:], w.Dawn)
	return o
}

// deeds returns what each deal does in the lot.
func (w *work) deeds(l lot) []deed {
	var list []deed
	now := w.dawn()
	for i, d := range w.Deals {
		done := now.sell(d, l[i])
		list = append(list, done)
		now = done.after()
	}
	return list
}

func (w *work) ownersIn(l lot) [][]int {
	rows := [][]int{w.dawn().list(len(w.Dawn))}
	for _, done := range w.deeds(l) {
		rows = append(rows, done.after().list(len(w.Dawn)))
	}
	return rows
}

func (w *work) dusk(l lot) owners {
	o := w.dawn()
	for i, d := range w.Deals {
		o = o.with(l[i], d.Buyer)
	}
	return o
}

func (w *work) brokenIn(l lot) []int {
	var list []int
	for i, done := range w.deeds(l) {
		switch done.(type) {
		case broken:
			list = append(list, i)
		}
	}
	return list
}

// isSound tells whether there is a lot in which no deal is broken.
func (w *work) isSound() bool {
	found := false
search:
	for l := range w.lots() {
		for _, done := range w.deeds(l) {
			switch done.(type) {
			case broken:
				continue search
			}
		}
		found = true
		break search
	}
	return found
}

// starts returns how lots begin: with each horse of the first deal, if there is a deal.
func (w *work) starts() [][]int {
	if len(w.Deals) == 0 {
		return [][]int{nil}
	}
	var list [][]int
	for _, h := range w.Deals[0].Horses {
		list = append(list, []int{h})
	}
	return list
}

// lookAt tells each lot that begins with start, and how many of its deals are broken.
func (w *work) lookAt(start []int, tell func(l lot, broken int)) {
	for l := range w.lots(start...) {
		tell(l, len(w.brokenIn(l)))
	}
}

// part is the best ones of the lots with the start of this number.
type part struct {
	number int
	best   fewest[lot]
}

// parts looks at the lots of each start side by side. In which order they come does not matter, since each has its number.
func (w *work) parts() []fewest[lot] {
	starts := w.starts()
	sent, done := make(chan part), make(chan bool)
	var wait sync.WaitGroup
	for i, start := range starts {
		wait.Add(1)
		go func() {
			defer wait.Done()
			p := part{number: i}
			w.lookAt(start, p.best.offer)
			sent <- p
		}()
	}
	go func() {
		wait.Wait()
		close(done)
	}()
	list := make([]fewest[lot], len(starts))
	for {
		select {
		case p := <-sent:
			list[p.number] = p.best
		case <-done:
			return list
		}
	}
}

// best returns the best lots, in lexicographic order. There is one at least.
func (w *work) best() fewest[lot] {
	var best fewest[lot]
	for _, p := range w.parts() {
		for _, l := range p.all {
			best.offer(l, p.cost)
		}
	}
	return best
}

func (w *work) with(d api.Deal) *work {
	t := w.Trade
	t.Deals = append(t.Deals[:len(t.Deals):len(t.Deals)], d)
	return &work{t}
}

// without strikes the deals of the list out, the last one first, so that the others keep their numbers until then. Without room behind what comes before, append makes a new list.
func (w *work) without(list []int) *work {
	t := w.Trade
	for _, i := range slices.Backward(list) {
		t.Deals = append(t.Deals[:i:i], t.Deals[i+1:]...)
	}
	return &work{t}
}

func (w *work) copied() api.Trade {
	t := api.Trade{Persons: w.Persons, Dawn: slices.Clone(w.Dawn)}
	for _, d := range w.Deals {
		d.Horses = slices.Clone(d.Horses)
		t.Deals = append(t.Deals, d)
	}
	return t
}
