package mark

import (
	"cmp"
	"slices"

	"palfrey/api"
)

// work is a fair at work. It is not changed once it is made, so that goroutines can share it.
type work struct {
	api.Fair
	can map[horse]bool
}

func newWork(f api.Fair) *work {
	w := &work{Fair: f, can: map[horse]bool{}}
	for _, h := range horses(len(f.Entries)) {
		w.can[h] = w.why(h.list()) == nil
	}
	return w
}

// horse is the entries that are said to be of one horse, as bits: it can be compared, and be a key.
type horse struct{ entries uint8 }

func (h horse) with(n int) horse { return horse{h.entries | 1<<n} }

func (h horse) has(n int) bool { return h.entries>>n&1 == 1 }

func (h horse) list() []int { return which(api.MaxEntries, h.has) }

// horses returns the horse without an entry, too: nothing may have to be wrong.
func horses(entries int) []horse {
	list := []horse{{}}
	for n := range entries {
		for _, h := range list {
			list = append(list, h.with(n))
		}
	}
	return list
}

// marks are the marks of an entry, as bits.
type marks uint8

func marksOf(list []int) marks {
	var m marks
	for _, n := range list {
		m |= 1 << n
	}
	return m
}

func (m marks) has(n int) bool { return m>>n&1 == 1 }

func (m marks) changed(to marks) int {
	apart := m ^ to
	return len(which(api.MaxMark+1, apart.has))
}

func which(limit int, holds func(int) bool) []int {
	var list []int
	for n := range limit {
		if holds(n) {
			list = append(list, n)
		}
	}
	return list
}

// intersect returns what all lists have, in the order of the first one.
func intersect[T comparable](lists ...[]T) []T {
	var common []T
	if len(lists) == 0 {
		return common
	}
search:
	for _, v := range lists[0] {
		for _, l := range lists[1:] {
			if !slices.Contains(l, v) {
				continue search
			}
		}
		common = append(common, v)
	}
	return common
}

// reason is why entries cannot be one horse; it bars them whatever other reasons there are.
type reason interface {
	bars(w *work, entries []int) bool
}

type (
	otherCoat   struct{}
	noHeight    struct{}
	tooFewHours struct{}
)

func (otherCoat) bars(w *work, entries []int) bool {
	for _, n := range entries {
		if w.Entries[n].Coat != w.Entries[entries[0]].Coat {
			return true
		}
	}
	return false
}

func (noHeight) bars(w *work, entries []int) bool {
	return len(w.heights(entries)) == 0
}

func (tooFewHours) bars(w *work, entries []int) bool {
	list := w.byHour().sorted(entries)
	for i := range len(list) - 1 {
		if w.hours(list[i], list[i+1]) < w.needed(list[i], list[i+1]) {
			return true
		}
	}
	return false
}

// why returns the first reason why the entries cannot be one horse, nil if there is none.
func (w *work) why(entries []int) reason {
	for _, r := range []reason{otherCoat{}, noHeight{}, tooFewHours{}} {
		if r.bars(w, entries) {
			return r
		}
	}
	return nil
}

func code(r reason) int {
	switch r.(type) {
	case otherCoat:
		return api.ByCoat
	case noHeight:
		return api.ByHeight
	case tooFewHours:
		return api.ByHours
	}
	return 0
}

type order struct {
	compare func(x, y int) int
}

func (w *work) byHour() order {
	return order{func(x, y int) int {
		return cmp.Or(cmp.Compare(w.Entries[x].Hour, w.Entries[y].Hour), cmp.Compare(x, y))
	}}
}

func (o order) sorted(entries []int) []int {
	list := slices.Clone(entries)
	slices.SortFunc(list, o.compare)
	return list
}

func (w *work) hours(x, y int) int { return w.Entries[y].Hour - w.Entries[x].Hour }

// needed adds both: a horse is not dyed while it is led from place to place.
func (w *work) needed(x, y int) int {
	a, b := w.Entries[x], w.Entries[y]
	return w.Roads[a.Place][b.Place] + w.Dye*marksOf(a.Marks).changed(marksOf(b.Marks))
}

func (w *work) heights(entries []int) []int {
	lists := make([][]int, len(entries))
	for i, n := range entries {
		lists[i] = w.left(w.Entries[n])
	}
	return intersect(lists...)
}

// left returns all heights of the horse that one entry leaves.
func (w *work) left(n api.Entry) []int {
	var list []int
	for i := range api.MaxShoe + 1 {
		added := api.MaxShoe - i
		bare := added == 0 && n.Shod != api.Shod
		shod := !outside(added, w.Shoe.From, w.Shoe.To) && n.Shod != api.Bare
		if bare || shod {
			list = append(list, n.Height-added)
		}
	}
	return list
}
