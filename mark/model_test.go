package mark_test

import (
	"slices"

	"palfrey/api"
)

// The model says in the plainest way what the chapter says, so that the package can be held against it.

func modelHeight(f api.Fair, n api.Entry, h int) bool {
	shod := n.Height-h >= f.Shoe.From && n.Height-h <= f.Shoe.To
	switch n.Shod {
	case api.Bare:
		return n.Height == h
	case api.Shod:
		return shod
	}
	return n.Height == h || shod
}

func modelHeights(f api.Fair, entries []int) []int {
	var list []int
	for h := -10; h <= 40; h++ {
		all := true
		for _, n := range entries {
			all = all && modelHeight(f, f.Entries[n], h)
		}
		if all {
			list = append(list, h)
		}
	}
	return list
}

func modelNeeded(f api.Fair, a, b api.Entry) int {
	hours := f.Roads[a.Place][b.Place]
	for m := range api.MaxMark + 1 {
		if slices.Contains(a.Marks, m) != slices.Contains(b.Marks, m) {
			hours += f.Dye
		}
	}
	return hours
}

func modelReason(f api.Fair, entries []int) int {
	for _, n := range entries {
		if f.Entries[n].Coat != f.Entries[entries[0]].Coat {
			return api.ByCoat
		}
	}
	if len(modelHeights(f, entries)) == 0 {
		return api.ByHeight
	}
	list := slices.Clone(entries)
	slices.Sort(list)
	slices.SortStableFunc(list, func(x, y int) int { return f.Entries[x].Hour - f.Entries[y].Hour })
	for i := 1; i < len(list); i++ {
		a, b := f.Entries[list[i-1]], f.Entries[list[i]]
		if b.Hour-a.Hour < modelNeeded(f, a, b) {
			return api.ByHours
		}
	}
	return 0
}

// lists returns all lists of so many numbers from 0 to less than limit, in lexicographic order.
func lists(length, limit int) [][]int {
	if length == 0 {
		return [][]int{{}}
	}
	var all [][]int
	for _, l := range lists(length-1, limit) {
		for n := range limit {
			all = append(all, append(slices.Clone(l), n))
		}
	}
	return all
}

// parts returns all lists of entries, ascending: the shorter ones first, those of one length in lexicographic order.
func parts(entries int) [][]int {
	var all [][]int
	for _, bits := range lists(entries, 2) {
		l := []int{}
		for n, b := range bits {
			if b == 1 {
				l = append(l, n)
			}
		}
		all = append(all, l)
	}
	slices.SortFunc(all, func(a, b []int) int {
		if len(a) != len(b) {
			return len(a) - len(b)
		}
		return slices.Compare(a, b)
	})
	return all
}

func members(way []int, horse int) []int {
	var list []int
	for n, h := range way {
		if h == horse {
			list = append(list, n)
		}
	}
	return list
}

// written tells whether a list is numbered as ways are.
func written(list []int) bool {
	next := 0
	for _, n := range list {
		if n > next {
			return false
		}
		next = max(next, n+1)
	}
	return true
}

func horsesOf(way []int) int {
	if len(way) == 0 {
		return 0
	}
	return slices.Max(way) + 1
}

// modelWays returns all ways in lexicographic order.
func modelWays(f api.Fair) [][]int {
	ways := [][]int{}
	for _, l := range lists(len(f.Entries), len(f.Entries)) {
		if !written(l) || horsesOf(l) > f.Most {
			continue
		}
		right := true
		for h := range horsesOf(l) {
			right = right && modelReason(f, members(l, h)) == 0
		}
		if right {
			ways = append(ways, l)
		}
	}
	return ways
}

func modelVerdict(ways [][]int, holds func([]int) bool) int {
	yes := 0
	for _, l := range ways {
		if holds(l) {
			yes++
		}
	}
	switch yes {
	case len(ways):
		return api.Surely
	case 0:
		return api.Never
	}
	return api.MayBe
}

func modelThrough(ways [][]int, x, y int) []int {
	var through []int
	first := true
	for _, l := range ways {
		if l[x] != l[y] {
			continue
		}
		m := members(l, l[x])
		if first {
			through, first = m, false
		}
		through = slices.DeleteFunc(through, func(n int) bool { return !slices.Contains(m, n) })
	}
	return through
}

// keep returns the fair with just these entries, in this order.
func keep(f api.Fair, entries ...int) api.Fair {
	var l []api.Entry
	for _, n := range entries {
		l = append(l, f.Entries[n])
	}
	f.Entries = l
	return f
}

func without(f api.Fair, entries []int) api.Fair {
	var rest []int
	for n := range f.Entries {
		if !slices.Contains(entries, n) {
			rest = append(rest, n)
		}
	}
	return keep(f, rest...)
}

// dice are thrown the same way in each run.
type dice uint64

func (d *dice) roll(n int) int {
	*d ^= *d << 13
	*d ^= *d >> 7
	*d ^= *d << 17
	return int(uint64(*d) >> 11 % uint64(n))
}

func (d *dice) roads() [][]int {
	a, b := d.roll(4), d.roll(4)
	c := max(a-b, b-a) + d.roll(2)*min(a, b)
	return [][][]int{{{0}}, {{0, a}, {a, 0}}, {{0, a, b}, {a, 0, c}, {b, c, 0}}}[d.roll(3)]
}

func (d *dice) entry(places, hours int) api.Entry {
	n := api.Entry{Hour: d.roll(hours + 1), Place: d.roll(places), Coat: d.roll(8) / 7, Height: 14 + d.roll(3), Shod: d.roll(3)}
	for m := range api.MaxMark + 1 {
		if d.roll(7) == 0 {
			n.Marks = append(n.Marks, m)
		}
	}
	return n
}

// fair returns a fair with so many entries, most of which can be one horse with some other.
func (d *dice) fair(entries int) api.Fair {
	f := api.Fair{Roads: d.roads(), Dye: 1 + d.roll(api.MaxDye), Most: 1 + d.roll(4)}
	f.Shoe.From = d.roll(3)
	f.Shoe.To = f.Shoe.From + d.roll(api.MaxShoe-f.Shoe.From+1)
	hours := []int{3, 20, 40, api.MaxHour}[d.roll(4)]
	for range entries {
		f.Entries = append(f.Entries, d.entry(len(f.Roads), hours))
	}
	return f
}

// fairs returns fairs of all numbers of entries; small ones have at most limit.
func fairs(many, limit int) []api.Fair {
	d := dice(20261119)
	var list []api.Fair
	for i := range many {
		list = append(list, d.fair(i%(limit+1)))
	}
	return list
}
