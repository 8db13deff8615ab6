package cry_test

import (
	"cmp"
	"slices"

	"palfrey/api"
	"palfrey/mark"
)

// The model says in the plainest way what the chapter says, so that the package can be held against it.

func modelEntryError(n api.Entry, places int) api.Errno {
	if n.Hour < 0 || n.Hour > 72 {
		return api.ErrFigure
	}
	if n.Place < 0 || n.Place >= places {
		return api.ErrNobody
	}
	if n.Coat < 0 || n.Coat > 5 {
		return api.ErrFigure
	}
	for i, m := range n.Marks {
		if m < 0 || m > 4 {
			return api.ErrNobody
		}
		if i > 0 && m <= n.Marks[i-1] {
			return api.ErrTurn
		}
	}
	if n.Height < 0 || n.Height > 30 {
		return api.ErrFigure
	}
	if n.Shod < 0 || n.Shod > 2 {
		return api.ErrClass
	}
	return api.OK
}

func modelWayError(way api.Way, towns int) api.Errno {
	if way.A < 0 || way.A >= towns || way.B < 0 || way.B >= towns {
		return api.ErrNobody
	}
	if way.A == way.B {
		return api.ErrClass
	}
	if way.Hours < 1 || way.Hours > 12 || way.Open.From < 0 || way.Open.From > 72 || way.Open.To < 0 || way.Open.To > 72 {
		return api.ErrFigure
	}
	if way.Open.To < way.Open.From {
		return api.ErrTurn
	}
	return api.OK
}

func modelCryError(c api.Cry, towns, places int) api.Errno {
	if e := modelEntryError(c.Lost, places); e != api.OK {
		return e
	}
	if c.Town < 0 || c.Town >= towns {
		return api.ErrNobody
	}
	if c.Hour < 0 || c.Hour > 72 {
		return api.ErrFigure
	}
	if c.Hour < c.Lost.Hour {
		return api.ErrTurn
	}
	return api.OK
}

func modelError(w api.Watch) api.Errno {
	if e := mark.Check(w.Fair); e != api.OK {
		return e
	}
	if w.Towns < 1 || w.Towns > 4 {
		return api.ErrFigure
	}
	if len(w.Ways) > 6 {
		return api.ErrOver
	}
	for _, way := range w.Ways {
		if e := modelWayError(way, w.Towns); e != api.OK {
			return e
		}
	}
	if len(w.Cries) > 3 {
		return api.ErrOver
	}
	for _, c := range w.Cries {
		if e := modelCryError(c, w.Towns, len(w.Fair.Roads)); e != api.OK {
			return e
		}
	}
	if len(w.Fair.Entries)+len(w.Cries) > 6 {
		return api.ErrOver
	}
	if len(modelWays(wholeBook(w))) == 0 {
		return api.ErrFalse
	}
	return api.OK
}

// modelComes returns the hour at which the cry comes, or 73 if it never does, hour by hour: it looks in which towns the bellman can be.
func modelComes(w api.Watch, c api.Cry) int {
	var can [100][4]bool
	can[c.Hour][c.Town] = true
	for hour := c.Hour; hour <= 72; hour++ {
		if can[hour][0] {
			return hour
		}
		for town := range 4 {
			can[hour+1][town] = can[hour+1][town] || can[hour][town]
		}
		for _, way := range w.Ways {
			if hour < way.Open.From || hour > way.Open.To {
				continue
			}
			there := &can[hour+way.Hours]
			there[way.B] = there[way.B] || can[hour][way.A]
			there[way.A] = there[way.A] || can[hour][way.B]
		}
	}
	return 73
}

// modelRide returns the hour at which the bellman is at the end of the list of towns, as soon as possible, or 73 if never in time.
func modelRide(w api.Watch, c api.Cry, towns []int) int {
	now := c.Hour
	for i := range len(towns) - 1 {
		soonest := 73
		for out := now; out <= 72; out++ {
			for _, way := range w.Ways {
				ends := []int{way.A, way.B}
				if slices.Contains(ends, towns[i]) && slices.Contains(ends, towns[i+1]) && out >= way.Open.From && out <= way.Open.To {
					soonest = min(soonest, out+way.Hours)
				}
			}
		}
		now = soonest
	}
	return now
}

// roads returns all lists of towns from one to the town 0, none of them twice, the shortest first, then in lexicographic order.
func roads(towns, from int) [][]int {
	var all [][]int
	for a := range towns {
		for b := range towns {
			for _, l := range [][]int{{from}, {from, 0}, {from, a, 0}, {from, a, b, 0}} {
				sorted := slices.Clone(l)
				slices.Sort(sorted)
				if l[len(l)-1] == 0 && len(slices.Compact(sorted)) == len(l) {
					all = append(all, l)
				}
			}
		}
	}
	slices.SortFunc(all, shorterFirst)
	return slices.CompactFunc(all, slices.Equal)
}

func shorterFirst(a, b []int) int {
	return cmp.Or(cmp.Compare(len(a), len(b)), slices.Compare(a, b))
}

func modelRoute(w api.Watch, c api.Cry) []int {
	comes := modelComes(w, c)
	for _, l := range roads(w.Towns, c.Town) {
		if comes <= 72 && modelRide(w, c, l) == comes {
			return l
		}
	}
	return nil
}

// lists returns all ascending lists of numbers less than n, the shortest first, then in lexicographic order.
func lists(n int) [][]int {
	var all [][]int
	for bits := range 1 << n {
		var list []int
		for i := range n {
			if bits>>i&1 == 1 {
				list = append(list, i)
			}
		}
		all = append(all, list)
	}
	slices.SortFunc(all, shorterFirst)
	return all
}

// withEntries returns the fair with the entries of the lists instead of its own.
func withEntries(f api.Fair, lists ...[]api.Entry) api.Fair {
	f.Entries = slices.Concat(lists...)
	return f
}

func lostOf(cries ...api.Cry) []api.Entry {
	var list []api.Entry
	for _, c := range cries {
		list = append(list, c.Lost)
	}
	return list
}

func wholeBook(w api.Watch) api.Fair { return withEntries(w.Fair, w.Fair.Entries, lostOf(w.Cries...)) }

// keep returns the things with the numbers.
func keep[T any](things []T, numbers []int) []T {
	var list []T
	for _, n := range numbers {
		list = append(list, things[n])
	}
	return list
}

// members returns the entries of the horse.
func members(way []int, horse int) []int {
	var list []int
	for n, h := range way {
		if h == horse {
			list = append(list, n)
		}
	}
	return list
}

// modelWays returns all ways of the book, entry by entry: each one is put to each horse before it, and to a new one.
func modelWays(f api.Fair) [][]int {
	can := map[int]bool{}
	oneHorse := func(list []int) bool {
		bits := 0
		for _, n := range list {
			bits |= 1 << n
		}
		if _, there := can[bits]; !there {
			can[bits], _ = mark.Can(f, list)
		}
		return can[bits]
	}
	ways := [][]int{{}}
	for range f.Entries {
		var longer [][]int
		for _, l := range ways {
			for horse := range min(slices.Max(append(l, -1))+2, f.Most) {
				l := append(slices.Clone(l), horse)
				if oneHorse(members(l, horse)) {
					longer = append(longer, l)
				}
			}
		}
		ways = longer
	}
	return ways
}

// moment is what is known at an hour, and for each horse and each cry what Same says of them, or 0 if not both are known.
type moment struct {
	entries, cries []int
	same           [][]int
}

func modelMoment(w api.Watch, hour int) moment {
	var m moment
	for n, x := range w.Fair.Entries {
		m.same = append(m.same, make([]int, len(w.Cries)))
		if x.Hour <= hour {
			m.entries = append(m.entries, n)
		}
	}
	for n, c := range w.Cries {
		if modelComes(w, c) <= hour {
			m.cries = append(m.cries, n)
		}
	}
	book := m.book(w)
	for i, horse := range m.entries {
		for j, c := range m.cries {
			m.same[horse][c], _ = mark.Same(book, i, len(m.entries)+j)
		}
	}
	return m
}

func (m moment) book(w api.Watch) api.Fair {
	return withEntries(w.Fair, keep(w.Fair.Entries, m.entries), lostOf(keep(w.Cries, m.cries)...))
}

// why returns the cries of which the horse may be the one.
func (m moment) why(horse int) []int {
	var list []int
	for c, verdict := range m.same[horse] {
		if verdict == api.Surely || verdict == api.MayBe {
			list = append(list, c)
		}
	}
	return list
}

func (m moment) held() []int {
	var list []int
	for horse := range m.same {
		if len(m.why(horse)) > 0 {
			list = append(list, horse)
		}
	}
	return list
}

// sample is a watch, and the moment of each hour.
type sample struct {
	w     api.Watch
	hours []moment
}

func sampleOf(w api.Watch) sample {
	s := sample{w: w}
	turns := turnsOf(w)
	for hour := range 73 {
		if hour == 0 || slices.Contains(turns, hour) {
			s.hours = append(s.hours, modelMoment(w, hour))
		} else {
			s.hours = append(s.hours, s.hours[hour-1])
		}
	}
	return s
}

// turnsOf returns the hours, ascending, at which something is known that was not an hour before.
func turnsOf(w api.Watch) []int {
	var list []int
	for _, n := range w.Fair.Entries {
		list = append(list, n.Hour)
	}
	for _, c := range w.Cries {
		list = append(list, modelComes(w, c))
	}
	list = slices.DeleteFunc(list, func(hour int) bool { return hour > 72 })
	slices.Sort(list)
	return slices.Compact(list)
}

// about returns the hours at which something turns, those before and after, the first and the last one.
func (s sample) about() []int {
	list := []int{0, 72}
	for _, hour := range turnsOf(s.w) {
		list = append(list, max(hour-1, 0), hour, min(hour+1, 72))
	}
	slices.Sort(list)
	return slices.Compact(list)
}

func (s sample) end() moment { return s.hours[72] }

func (s sample) spans(horse int) []api.Range {
	var list []api.Range
	before := false
	for hour, m := range s.hours {
		held := len(m.why(horse)) > 0
		if held && !before {
			list = append(list, api.Range{From: hour, To: hour})
		}
		if held {
			list[len(list)-1].To = hour
		}
		before = held
	}
	return list
}

func (s sample) held() int {
	sum := 0
	for _, m := range s.hours {
		sum += len(m.held())
	}
	return sum
}

func (s sample) settled() int {
	hour := 72
	for hour > 0 && slices.Equal(s.hours[hour-1].held(), s.end().held()) {
		hour--
	}
	return hour
}

func (s sample) found(cry int) (hour, horse int, e api.Errno) {
	for hour, m := range s.hours {
		for horse := range m.same {
			if m.same[horse][cry] == api.Surely {
				return hour, horse, api.OK
			}
		}
	}
	return 0, 0, api.ErrVoid
}

func (s sample) verdict(cry int) (int, api.Errno) {
	m := s.end()
	at := slices.Index(m.cries, cry)
	if at < 0 {
		return 0, api.ErrVoid
	}
	ways := modelWays(m.book(s.w))
	there := 0
	for _, l := range ways {
		if slices.Contains(l[:len(m.entries)], l[len(m.entries)+at]) {
			there++
		}
	}
	switch there {
	case len(ways):
		return api.Surely, api.OK
	case 0:
		return api.Never, api.OK
	}
	return api.MayBe, api.OK
}

// onlyWith returns the watch with these cries alone.
func onlyWith(w api.Watch, cries []int) api.Watch {
	w.Cries = keep(w.Cries, cries)
	return w
}

func (s sample) needed() []int {
	for _, l := range lists(len(s.w.Cries)) {
		if slices.Equal(modelMoment(onlyWith(s.w, l), 72).held(), s.end().held()) {
			return l
		}
	}
	return nil
}

// dice are thrown the same way in each run.
type dice uint64

func (d *dice) roll(n int) int {
	*d ^= *d << 13
	*d ^= *d >> 7
	*d ^= *d << 17
	return int(uint64(*d) >> 11 % uint64(n))
}

func (d *dice) one(list ...int) int { return list[d.roll(len(list))] }

// shuffled returns the numbers less than n in some order.
func (d *dice) shuffled(n int) []int {
	var list []int
	for i := range n {
		list = slices.Insert(list, d.roll(i+1), i)
	}
	return list
}

func (d *dice) roads() [][]int {
	a, b := d.roll(4), d.roll(4)
	c := max(a-b, b-a) + d.roll(2)*min(a, b)
	return [][][]int{{{0}}, {{0, a}, {a, 0}}, {{0, a, b}, {a, 0, c}, {b, c, 0}}}[d.roll(3)]
}

func (d *dice) entry(places, hours int) api.Entry {
	n := api.Entry{Hour: d.roll(hours + 1), Place: d.roll(places), Coat: d.roll(8) / 7, Height: 14 + d.roll(3), Shod: d.roll(3)}
	for m := range 5 {
		if d.roll(9) == 0 {
			n.Marks = append(n.Marks, m)
		}
	}
	return n
}

func (d *dice) open() api.Range {
	from := d.one(0, 0, 3, 10, 30)
	return api.Range{From: from, To: min(72, from+d.one(0, 4, 15, 40, 72))}
}

func (d *dice) ways(towns, many int) []api.Way {
	var list []api.Way
	for range many {
		a := d.roll(towns)
		b := (a + 1 + d.roll(towns-1)) % towns
		list = append(list, api.Way{A: a, B: b, Hours: d.one(1, 1, 2, 2, 3, 5, 12), Open: d.open()})
	}
	return list
}

// cry returns a cry of a horse that is much like one of the entries, or of any one.
func (d *dice) cry(w api.Watch, hours int) api.Cry {
	n := d.entry(len(w.Fair.Roads), hours/2)
	if len(w.Fair.Entries) > 0 && d.roll(3) > 0 {
		like := w.Fair.Entries[d.roll(len(w.Fair.Entries))]
		n.Coat, n.Marks, n.Height = like.Coat, slices.Clone(like.Marks), like.Height
	}
	return api.Cry{Lost: n, Town: d.one(0, d.roll(w.Towns)), Hour: min(72, n.Hour+d.roll(hours/2+1))}
}

// watch returns a watch that is valid.
func (d *dice) watch(entries, cries int) api.Watch {
	for {
		w := api.Watch{Fair: api.Fair{Roads: d.roads(), Dye: d.one(1, 3, 6), Most: 1 + d.roll(5)}, Towns: 1 + d.roll(4)}
		w.Fair.Shoe.From = d.roll(3)
		w.Fair.Shoe.To = w.Fair.Shoe.From + d.roll(4-w.Fair.Shoe.From)
		hours := d.one(12, 40, 72)
		for range entries {
			w.Fair.Entries = append(w.Fair.Entries, d.entry(len(w.Fair.Roads), hours))
		}
		if w.Towns > 1 {
			w.Ways = d.ways(w.Towns, d.roll(7))
		}
		for range cries {
			w.Cries = append(w.Cries, d.cry(w, hours))
		}
		if ways, e := mark.Count(wholeBook(w)); e == api.OK && ways > 0 {
			return w
		}
	}
}

func watches(many int) []api.Watch {
	d := dice(20261120)
	var list []api.Watch
	for i := range many {
		cries := d.one(0, 1, 1, 2, 2, 2, 3, 3, 3)
		list = append(list, d.watch(min(i%7, 6-cries), cries))
	}
	return list
}

// samples returns so many samples, and the special ones.
func samples(many int) []sample {
	var list []sample
	for _, w := range append(watches(many), special()...) {
		list = append(list, sampleOf(w))
	}
	return list
}
