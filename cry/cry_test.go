package cry_test

import (
	"math"
	"slices"
	"testing"

	"palfrey/api"
	"palfrey/cry"
)

type (
	ints  = []int
	spans = []api.Range
)

func entry(hour, place, coat, height, shod int, marks ...int) api.Entry {
	return api.Entry{Hour: hour, Place: place, Coat: coat, Marks: marks, Height: height, Shod: shod}
}

func way(a, b, hours, from, to int) api.Way {
	return api.Way{A: a, B: b, Hours: hours, Open: api.Range{From: from, To: to}}
}

func lose(lost api.Entry, town, hour int) api.Cry {
	return api.Cry{Lost: lost, Town: town, Hour: hour}
}

// exampleS is S of the chapter's examples, exampleT is T.
func exampleS() api.Watch {
	return api.Watch{
		Fair: api.Fair{
			Roads: [][]int{{0, 2}, {2, 0}}, Shoe: api.Range{From: 1, To: 2}, Dye: 3, Most: 3,
			Entries: []api.Entry{entry(10, 0, 1, 15, api.Bare, 0), entry(12, 0, 1, 16, api.Shod), entry(14, 0, 2, 14, api.Bare), entry(16, 0, 1, 14, api.Bare)},
		},
		Towns: 3,
		Ways:  []api.Way{way(0, 1, 4, 6, 20), way(1, 2, 1, 0, 72), way(2, 0, 2, 0, 72)},
		Cries: []api.Cry{lose(entry(4, 1, 1, 15, api.Bare, 0), 1, 5)},
	}
}

func exampleT() api.Watch {
	return change(exampleS(), func(w *api.Watch) { w.Ways = w.Ways[:2] })
}

// change returns what the watch has become; how may write to anything in it.
func change(w api.Watch, how func(w *api.Watch)) api.Watch {
	w = copyOf(w)
	how(&w)
	return w
}

func copyOf(w api.Watch) api.Watch {
	w.Fair.Roads = slices.Clone(w.Fair.Roads)
	for i := range w.Fair.Roads {
		w.Fair.Roads[i] = slices.Clone(w.Fair.Roads[i])
	}
	w.Fair.Entries, w.Ways, w.Cries = slices.Clone(w.Fair.Entries), slices.Clone(w.Ways), slices.Clone(w.Cries)
	for i := range w.Fair.Entries {
		w.Fair.Entries[i].Marks = slices.Clone(w.Fair.Entries[i].Marks)
	}
	for i := range w.Cries {
		w.Cries[i].Lost.Marks = slices.Clone(w.Cries[i].Lost.Marks)
	}
	return w
}

// with returns S with other cries.
func with(cries ...api.Cry) api.Watch {
	return change(exampleS(), func(w *api.Watch) { w.Cries = cries })
}

// plain has one place, no shoes and Dye 1, and all cries set out in the only town.
func plain(most int, entries []api.Entry, cries ...api.Cry) api.Watch {
	return api.Watch{Fair: api.Fair{Roads: [][]int{{0}}, Dye: 1, Most: most, Entries: entries}, Towns: 1, Cries: cries}
}

// ride returns a watch with one cry, which sets out in the town at the hour.
func ride(town, hour int, ways ...api.Way) api.Watch {
	w := plain(1, nil, lose(entry(0, 0, 0, 15, api.Bare), town, hour))
	w.Towns, w.Ways = 4, ways
	return w
}

// again is two cries of a horse like the entry 1 of S: it is held, let go at the hour 16, and may be held again when the second cry comes.
func again(hour int) api.Watch {
	return with(exampleS().Cries[0], lose(entry(2, 0, 1, 14, api.Bare), 0, hour))
}

// eitherOne is two horses, and a cry of one of which it is not known which one it is.
func eitherOne() api.Watch {
	w := plain(2, []api.Entry{entry(3, 0, 1, 15, api.Bare), entry(5, 0, 1, 16, api.Bare)}, lose(entry(1, 0, 1, 16, api.Unsure), 0, 2))
	w.Fair.Shoe = api.Range{From: 1, To: 1}
	return w
}

// byTurns is a horse and two cries: the first one is of this horse, or of the one of the second cry, but never of another one.
func byTurns() api.Watch {
	w := plain(2, []api.Entry{entry(9, 0, 1, 15, api.Bare)}, lose(entry(1, 0, 1, 16, api.Unsure), 0, 1), lose(entry(2, 0, 1, 16, api.Bare), 0, 2))
	w.Fair.Shoe = api.Range{From: 1, To: 1}
	return w
}

// letGo is a horse that is let go as soon as a second cry comes: the horse of the first one must be the one of the second.
func letGo() api.Watch {
	w := plain(2, []api.Entry{entry(10, 0, 1, 15, api.Unsure), entry(11, 0, 1, 14, api.Bare)}, lose(entry(1, 0, 1, 16, api.Unsure), 0, 1), lose(entry(2, 0, 1, 16, api.Bare), 0, 20))
	w.Fair.Shoe = api.Range{From: 1, To: 1}
	return w
}

// fewer is S with room for one horse more, and a cry of a horse that is not there: it takes this room, so that fewer horses are held.
func fewer() api.Watch {
	w := with(exampleS().Cries[0], lose(entry(1, 0, 5, 15, api.Bare), 0, 1))
	w.Fair.Most = 4
	return w
}

// threeCoats is a horse for each of three cries.
func threeCoats() api.Watch {
	return plain(3, []api.Entry{entry(5, 0, 1, 15, 0), entry(5, 0, 2, 15, 0), entry(5, 0, 3, 15, 0)}, lose(entry(1, 0, 1, 15, 0), 0, 1), lose(entry(1, 0, 2, 15, 0), 0, 9), lose(entry(1, 0, 3, 15, 0), 0, 1))
}

// special returns the watches of the tests that are about a case that is rare.
func special() []api.Watch {
	return []api.Watch{exampleS(), exampleT(), again(20), again(16), eitherOne(), byTurns(), letGo(), fewer(), threeCoats(), with(), plain(1, nil)}
}

func sameEntry(a, b api.Entry) bool {
	return slices.Equal(a.Marks, b.Marks) && a.Hour == b.Hour && a.Place == b.Place && a.Coat == b.Coat && a.Height == b.Height && a.Shod == b.Shod
}

func sameCry(a, b api.Cry) bool {
	return sameEntry(a.Lost, b.Lost) && a.Town == b.Town && a.Hour == b.Hour
}

func sameWatch(a, b api.Watch) bool {
	return slices.EqualFunc(a.Fair.Roads, b.Fair.Roads, slices.Equal) && slices.EqualFunc(a.Fair.Entries, b.Fair.Entries, sameEntry) &&
		a.Fair.Shoe == b.Fair.Shoe && a.Fair.Dye == b.Fair.Dye && a.Fair.Most == b.Fair.Most &&
		a.Towns == b.Towns && slices.Equal(a.Ways, b.Ways) && slices.EqualFunc(a.Cries, b.Cries, sameCry)
}

type checked struct {
	name string
	w    api.Watch
	want api.Errno
}

// badFairs have something wrong with the towns, too, that is checked later.
func badFairs() []checked {
	bad := func(name string, want api.Errno, how func(f *api.Fair)) checked {
		return checked{name, change(exampleS(), func(w *api.Watch) {
			how(&w.Fair)
			w.Towns = 0
		}), want}
	}
	return []checked{
		{"nothing", api.Watch{}, api.ErrUnder},
		bad("no places", api.ErrUnder, func(f *api.Fair) { f.Roads = nil }),
		bad("four places", api.ErrOver, func(f *api.Fair) { f.Roads = make([][]int, 4) }),
		bad("roads that do not agree", api.ErrFalse, func(f *api.Fair) { f.Roads[0][1] = 1 }),
		bad("shoes turned round", api.ErrTurn, func(f *api.Fair) { f.Shoe = api.Range{From: 2, To: 1} }),
		bad("no dye", api.ErrFigure, func(f *api.Fair) { f.Dye = 0 }),
		bad("no horses", api.ErrFigure, func(f *api.Fair) { f.Most = 0 }),
		bad("seven entries", api.ErrOver, func(f *api.Fair) { f.Entries = make([]api.Entry, 7) }),
		bad("an entry at no place", api.ErrNobody, func(f *api.Fair) { f.Entries[3].Place = 2 }),
		bad("an entry neither bare nor shod", api.ErrClass, func(f *api.Fair) { f.Entries[3].Shod = 3 }),
	}
}

// badWays have a cry, and most have a later way, that is wrong, too.
func badWays() []checked {
	var list []checked
	add := func(name string, want api.Errno, bad api.Way) {
		w := change(exampleS(), func(w *api.Watch) { w.Cries[0].Town = 9 })
		last := change(w, func(w *api.Watch) { w.Ways = append(w.Ways, bad) })
		middle := change(w, func(w *api.Watch) {
			w.Ways[1] = bad
			w.Ways = append(w.Ways, way(9, 9, 9, 9, 8), way(0, 0, 0, 0, 0), way(0, 1, 0, 0, 0))
		})
		list = append(list, checked{name, last, want}, checked{name + ", and later ones", middle, want})
	}
	add("from no town", api.ErrNobody, way(-1, 0, 0, 9, 8))
	add("from a town too high", api.ErrNobody, way(3, 0, 0, 9, 8))
	add("to no town", api.ErrNobody, way(0, -1, 0, 9, 8))
	add("to a town too high", api.ErrNobody, way(0, 3, 0, 9, 8))
	add("between no towns", api.ErrNobody, way(3, 3, 1, 0, 0))
	add("from a town to itself", api.ErrClass, way(2, 2, 0, 9, 8))
	add("in no hours", api.ErrFigure, way(0, 2, 0, 9, 8))
	add("in less than no hours", api.ErrFigure, way(0, 2, -1, 0, 8))
	add("in 13 hours", api.ErrFigure, way(0, 2, 13, 0, 8))
	add("open from -1", api.ErrFigure, way(0, 2, 1, -1, -2))
	add("open from 73", api.ErrFigure, way(0, 2, 1, 73, 8))
	add("open to -1", api.ErrFigure, way(0, 2, 1, 0, -1))
	add("open to 73", api.ErrFigure, way(0, 2, 1, 0, 73))
	add("open from 9 to 8", api.ErrTurn, way(0, 2, 1, 9, 8))
	add("open from 72 to 0", api.ErrTurn, way(0, 2, 12, 72, 0))
	return list
}

// badCries have a later cry, and a fair with too many entries, that are wrong, too.
func badCries() []checked {
	var list []checked
	add := func(name string, want api.Errno, bad api.Cry) {
		list = append(list, checked{name, with(bad), want}, checked{name + ", as the second one", with(exampleS().Cries[0], bad), want})
		list = append(list, checked{name + ", and later ones", change(with(bad, lose(entry(99, 9, 9, 99, 9), 9, 99)), func(w *api.Watch) {
			w.Fair.Entries = make([]api.Entry, 6)
		}), want})
	}
	add("lost at the hour 73", api.ErrFigure, lose(entry(73, 2, 6, 31, 3, 5), 3, 73))
	add("lost at the hour -1", api.ErrFigure, lose(entry(-1, 0, 1, 15, 0), 0, 0))
	add("lost at a place too high", api.ErrNobody, lose(entry(4, 2, 6, 31, 3, 5), 3, 73))
	add("lost at the place -1", api.ErrNobody, lose(entry(4, -1, 1, 15, 0), 0, 5))
	add("of the coat 6", api.ErrFigure, lose(entry(4, 1, 6, 31, 3, 5), 3, 73))
	add("of the coat -1", api.ErrFigure, lose(entry(4, 1, -1, 15, 0), 0, 5))
	add("with the mark 5", api.ErrNobody, lose(entry(4, 1, 1, 31, 3, 5), 3, 73))
	add("with a mark twice", api.ErrTurn, lose(entry(4, 1, 1, 31, 3, 1, 1), 3, 73))
	add("with marks turned round", api.ErrTurn, lose(entry(4, 1, 1, 15, 0, 2, 1), 0, 5))
	add("with the height 31", api.ErrFigure, lose(entry(4, 1, 1, 31, 3), 3, 73))
	add("with the height -1", api.ErrFigure, lose(entry(4, 1, 1, -1, 0), 0, 5))
	add("neither bare nor shod", api.ErrClass, lose(entry(4, 1, 1, 15, 3), 3, 73))
	add("shod -1", api.ErrClass, lose(entry(4, 1, 1, 15, -1), 0, 3))
	add("from a town too high", api.ErrNobody, lose(entry(4, 1, 1, 15, 0), 3, 73))
	add("from the town -1", api.ErrNobody, lose(entry(4, 1, 1, 15, 0), -1, 3))
	add("at the hour 73", api.ErrFigure, lose(entry(4, 1, 1, 15, 0), 2, 73))
	add("at the hour -1", api.ErrFigure, lose(entry(4, 1, 1, 15, 0), 2, -1))
	add("before it was lost", api.ErrTurn, lose(entry(4, 1, 1, 15, 0), 2, 3))
	return list
}

func badWatches() []checked {
	list := slices.Concat(badFairs(), badWays(), badCries())
	add := func(name string, want api.Errno, how func(w *api.Watch)) {
		list = append(list, checked{name, change(exampleS(), how), want})
	}
	for _, n := range []int{0, -1, 5, math.MaxInt, math.MinInt} {
		add("so many towns, and too many ways", api.ErrFigure, func(w *api.Watch) { w.Towns, w.Ways = n, make([]api.Way, 7) })
	}
	add("a town less", api.ErrNobody, func(w *api.Watch) { w.Towns = 2 })
	add("seven ways, all wrong, and a cry", api.ErrOver, func(w *api.Watch) { w.Ways, w.Cries[0].Town = make([]api.Way, 7), 9 })
	add("seven ways, all right", api.ErrOver, func(w *api.Watch) { w.Ways = slices.Repeat(w.Ways[:1], 7) })
	add("four cries, all wrong", api.ErrOver, func(w *api.Watch) { w.Cries = slices.Repeat([]api.Cry{lose(entry(9, 9, 9, 9, 9), 9, 9)}, 4) })
	add("four cries, all right", api.ErrOver, func(w *api.Watch) { w.Cries = slices.Repeat(w.Cries, 4) })
	add("six entries and a cry, without a way", api.ErrOver, func(w *api.Watch) { w.Fair.Entries, w.Fair.Most = slices.Repeat(w.Fair.Entries[:3], 2), 1 })
	add("four entries and three cries", api.ErrOver, func(w *api.Watch) { w.Cries = slices.Repeat(w.Cries, 3) })
	add("a fair without a way", api.ErrFalse, func(w *api.Watch) { w.Fair.Most, w.Cries = 2, nil })
	add("a cry that leaves no way", api.ErrFalse, func(w *api.Watch) { w.Cries[0].Lost.Coat = 4 })
	add("a cry that never comes and leaves no way", api.ErrFalse, func(w *api.Watch) { w.Cries[0].Lost.Coat, w.Ways = 4, nil })
	add("a second cry that leaves no way", api.ErrFalse, func(w *api.Watch) { w.Cries = append(w.Cries, lose(entry(1, 0, 3, 10, 0), 0, 20)) })
	return list
}

func TestCheckReturnsTheFirstError(t *testing.T) { // P7.1
	six := plain(6, slices.Repeat([]api.Entry{entry(72, 0, 5, 30, api.Unsure, 0, 1, 2, 3, 4)}, 6))
	most := plain(1, slices.Repeat([]api.Entry{entry(72, 0, 0, 0, api.Bare)}, 3), slices.Repeat([]api.Cry{lose(entry(0, 0, 0, 0, api.Bare), 3, 72)}, 3)...)
	most.Towns, most.Ways = 4, []api.Way{way(3, 0, 12, 0, 72), way(0, 3, 1, 72, 72), way(0, 3, 12, 0, 0), way(0, 3, 1, 0, 72), way(0, 3, 1, 0, 72), way(2, 1, 1, 7, 7)}
	for i, good := range []api.Watch{
		exampleS(), exampleT(), eitherOne(), byTurns(), again(20), plain(1, nil), six, most, with(), ride(3, 0),
		with(lose(entry(4, 1, 1, 15, 0), 2, 4)), with(lose(entry(72, 0, 1, 15, 0), 2, 72)),
	} {
		if e := cry.Check(good); e != api.OK {
			t.Errorf("good watch %d: %v", i, e)
		}
	}
	for _, x := range badWatches() {
		if e := cry.Check(x.w); e != x.want {
			t.Errorf("%s: %v: %v, not %v", x.name, x.w, e, x.want)
		}
		if e := modelError(x.w); e != x.want {
			t.Errorf("%s: the model says %v of %v, not %v", x.name, e, x.w, x.want)
		}
	}
	for i, w := range watches(300) {
		if e := cry.Check(w); e != api.OK {
			t.Errorf("watch %d: %v: %v", i, w, e)
		}
	}
}

func TestChapterExamplesOfErrors(t *testing.T) { // P7.1
	for i, x := range []struct {
		w    api.Watch
		want api.Errno
	}{
		{exampleS(), api.OK},
		{change(exampleS(), func(w *api.Watch) { w.Towns = 0 }), api.ErrFigure},
		{change(exampleS(), func(w *api.Watch) { w.Ways[0] = way(0, 0, 4, 6, 20) }), api.ErrClass},
		{change(exampleS(), func(w *api.Watch) { w.Ways[0].Open = api.Range{From: 9, To: 8} }), api.ErrTurn},
		{change(exampleS(), func(w *api.Watch) { w.Cries[0].Hour = 3 }), api.ErrTurn},
	} {
		if e := cry.Check(x.w); e != x.want {
			t.Errorf("example %d: %v, not %v", i, e, x.want)
		}
	}
}

func TestArrivalAndRoute(t *testing.T) { // P7.1
	for i, x := range []struct {
		w     api.Watch
		hour  int
		towns ints
	}{
		{exampleS(), 8, ints{1, 2, 0}}, {exampleT(), 10, ints{1, 0}},
		// It sets out at the fair; it is there at once, at the last hour, too, and with ways that lead away.
		{ride(0, 0), 0, ints{0}}, {ride(0, 72), 72, ints{0}}, {ride(0, 7, way(0, 1, 1, 0, 72)), 7, ints{0}},
		// It waits until a way is open; at the first and at the last hour of it one can set out, from either end.
		{ride(1, 3, way(1, 0, 2, 9, 9)), 11, ints{1, 0}}, {ride(1, 3, way(0, 1, 2, 9, 9)), 11, ints{1, 0}}, {ride(1, 9, way(0, 1, 2, 3, 9)), 11, ints{1, 0}},
		// It waits on the way; a way that is closed in the meantime may end the ride.
		{ride(1, 3, way(1, 2, 2, 0, 72), way(2, 0, 1, 20, 21)), 21, ints{1, 2, 0}},
		{ride(1, 3, way(1, 2, 2, 0, 72), way(2, 0, 1, 4, 4), way(1, 0, 12, 30, 72)), 42, ints{1, 0}},
		// It comes at the last hour.
		{ride(1, 60, way(1, 0, 12, 0, 72)), 72, ints{1, 0}}, {ride(1, 0, way(1, 0, 1, 71, 72)), 72, ints{1, 0}}, {ride(1, 60, way(1, 2, 6, 0, 72), way(2, 0, 6, 0, 72)), 72, ints{1, 2, 0}},
		// Of two ways between the same towns that one is taken by which one is there sooner: the slower one, if it is open sooner.
		{ride(1, 5, way(1, 0, 12, 0, 72), way(0, 1, 2, 0, 72)), 7, ints{1, 0}}, {ride(1, 5, way(1, 0, 1, 20, 72), way(0, 1, 12, 0, 72)), 17, ints{1, 0}},
		// Through all towns, against the order of the ways.
		{ride(3, 1, way(0, 1, 1, 0, 72), way(1, 2, 1, 0, 72), way(2, 3, 1, 0, 72)), 4, ints{3, 2, 1, 0}},
		{ride(1, 1, way(3, 0, 1, 0, 72), way(2, 3, 1, 0, 72), way(1, 2, 1, 0, 72), way(1, 0, 12, 0, 72)), 4, ints{1, 2, 3, 0}},
		// Of several lists the shortest one, and of these the first one.
		{ride(1, 1, way(1, 2, 1, 0, 72), way(2, 0, 1, 0, 72), way(1, 0, 2, 0, 72)), 3, ints{1, 0}},
		{ride(3, 1, way(3, 2, 1, 0, 72), way(2, 0, 1, 0, 72), way(3, 1, 1, 0, 72), way(1, 0, 1, 0, 72)), 3, ints{3, 1, 0}},
		{ride(2, 1, way(2, 3, 1, 0, 72), way(3, 0, 1, 0, 72), way(2, 1, 1, 0, 72), way(1, 0, 1, 0, 72)), 3, ints{2, 1, 0}},
		{ride(3, 1, way(3, 1, 1, 0, 72), way(1, 2, 1, 0, 72), way(2, 0, 1, 0, 72), way(3, 2, 2, 0, 72)), 4, ints{3, 2, 0}},
		// By way of a town where it is later than it could be, if it has to wait then in any case.
		{ride(1, 1, way(1, 2, 5, 0, 72), way(1, 3, 1, 0, 72), way(3, 2, 1, 0, 72), way(2, 0, 1, 10, 10)), 11, ints{1, 2, 0}},
	} {
		hour, e := cry.Arrival(x.w, 0)
		towns, f := cry.Route(x.w, 0)
		if hour != x.hour || !slices.Equal(towns, x.towns) || e != api.OK || f != api.OK {
			t.Errorf("case %d: %d %v, %v %v, not %d, %v", i, hour, e, towns, f, x.hour, x.towns)
		}
	}
}

func TestACryThatNeverComes(t *testing.T) { // P7.1, P7.2, P7.4
	for i, w := range []api.Watch{
		ride(1, 0), ride(1, 0, way(2, 0, 1, 0, 72)), ride(1, 0, way(1, 2, 1, 0, 72), way(2, 3, 1, 0, 72)),
		ride(1, 61, way(1, 0, 12, 0, 72)), ride(1, 0, way(1, 0, 1, 72, 72)), ride(1, 72, way(1, 0, 1, 0, 72)), ride(1, 10, way(1, 0, 1, 0, 9)),
		ride(1, 5, way(1, 2, 1, 0, 72), way(2, 0, 1, 0, 5)), ride(1, 60, way(1, 2, 6, 0, 72), way(2, 0, 7, 0, 72)), ride(1, 70, way(1, 2, 12, 0, 72), way(2, 0, 1, 0, 72)),
	} {
		w.Fair.Entries = []api.Entry{entry(0, 0, 0, 15, api.Bare)}
		hour, e := cry.Arrival(w, 0)
		towns, f := cry.Route(w, 0)
		verdict, g := cry.Verdict(w, 0)
		at, horse, h := cry.Found(w, 0)
		if got := []api.Errno{e, f, g, h}; !slices.Equal(got, slices.Repeat([]api.Errno{api.ErrVoid}, 4)) || hour != 0 || len(towns) > 0 || verdict != 0 || at != 0 || horse != 0 {
			t.Errorf("case %d: %d %v %d %d %d %v", i, hour, towns, verdict, at, horse, got)
		}
		entries, cries, e := cry.Known(w, 72)
		held, f := cry.Held(w, 72)
		if !slices.Equal(entries, ints{0}) || len(cries) > 0 || len(held) > 0 || e != api.OK || f != api.OK {
			t.Errorf("case %d: known %v %v, held %v, %v %v", i, entries, cries, held, e, f)
		}
	}
	w := change(exampleS(), func(w *api.Watch) { w.Cries = append(w.Cries, lose(entry(1, 1, 2, 14, api.Bare), 1, 70)) })
	for n, want := range []api.Errno{api.OK, api.ErrVoid} {
		if _, e := cry.Arrival(w, n); e != want {
			t.Errorf("the cry %d: %v, not %v", n, e, want)
		}
	}
	if _, cries, e := cry.Known(w, 72); !slices.Equal(cries, ints{0}) || e != api.OK {
		t.Errorf("known: %v %v", cries, e)
	}
}

func TestKnownHeldAndWhy(t *testing.T) { // P7.2
	both := with(exampleS().Cries[0], lose(entry(11, 0, 2, 14, api.Bare), 0, 11))
	for i, x := range []struct {
		w                    api.Watch
		hour                 int
		entries, cries, held ints
		why                  []ints
	}{
		{exampleS(), 0, nil, nil, nil, []ints{nil, nil, nil, nil}}, {exampleS(), 7, nil, nil, nil, []ints{nil, nil, nil, nil}}, {exampleS(), 8, nil, ints{0}, nil, []ints{nil, nil, nil, nil}},
		{exampleS(), 9, nil, ints{0}, nil, []ints{nil, nil, nil, nil}}, {exampleS(), 10, ints{0}, ints{0}, ints{0}, []ints{{0}, nil, nil, nil}}, {exampleS(), 12, ints{0, 1}, ints{0}, ints{0, 1}, []ints{{0}, {0}, nil, nil}},
		{exampleS(), 14, ints{0, 1, 2}, ints{0}, ints{0, 1}, []ints{{0}, {0}, nil, nil}}, {exampleS(), 16, ints{0, 1, 2, 3}, ints{0}, ints{0}, []ints{{0}, nil, nil, nil}}, {exampleS(), 72, ints{0, 1, 2, 3}, ints{0}, ints{0}, []ints{{0}, nil, nil, nil}},
		// An entry is not known, though one after it is; a cry comes before one that is before it.
		{plain(6, []api.Entry{entry(30, 0, 0, 15, 0), entry(5, 0, 0, 15, 0)}, lose(entry(1, 0, 0, 15, 0), 0, 40), lose(entry(2, 0, 0, 15, 0), 0, 3)), 20, ints{1}, ints{1}, ints{1}, []ints{nil, {1}}},
		{plain(6, []api.Entry{entry(30, 0, 0, 15, 0), entry(5, 0, 0, 15, 0)}, lose(entry(1, 0, 0, 15, 0), 0, 40), lose(entry(2, 0, 0, 15, 0), 0, 3)), 72, ints{0, 1}, ints{0, 1}, ints{0, 1}, []ints{{0, 1}, {0, 1}}},
		{both, 11, ints{0}, ints{0, 1}, ints{0}, []ints{{0}, nil, nil, nil}}, {both, 14, ints{0, 1, 2}, ints{0, 1}, ints{0, 1, 2}, []ints{{0}, {0}, {1}, nil}}, {both, 16, ints{0, 1, 2, 3}, ints{0, 1}, ints{0, 2}, []ints{{0}, nil, {1}, nil}},
		{again(20), 19, ints{0, 1, 2, 3}, ints{0}, ints{0}, []ints{{0}, nil, nil, nil}}, {again(20), 20, ints{0, 1, 2, 3}, ints{0, 1}, ints{0, 1, 3}, []ints{{0}, {1}, nil, {1}}},
		{eitherOne(), 3, ints{0}, ints{0}, ints{0}, []ints{{0}, nil}}, {eitherOne(), 5, ints{0, 1}, ints{0}, ints{0, 1}, []ints{{0}, {0}}}, {byTurns(), 9, ints{0}, ints{0, 1}, ints{0}, []ints{{0}}},
		{with(), 72, ints{0, 1, 2, 3}, nil, nil, []ints{nil, nil, nil, nil}}, {ride(0, 9), 72, nil, ints{0}, nil, nil}, {plain(1, nil), 0, nil, nil, nil, nil},
		// Both are known from the hour 0 on.
		{plain(1, []api.Entry{entry(0, 0, 0, 15, 0)}, lose(entry(0, 0, 0, 15, 0), 0, 0)), 0, ints{0}, ints{0}, ints{0}, []ints{{0}}},
	} {
		entries, cries, e := cry.Known(x.w, x.hour)
		held, f := cry.Held(x.w, x.hour)
		if e != api.OK || f != api.OK || !slices.Equal(entries, x.entries) || !slices.Equal(cries, x.cries) || !slices.Equal(held, x.held) {
			t.Errorf("case %d: known %v %v %v, held %v %v", i, entries, cries, e, held, f)
		}
		for horse, want := range x.why {
			if why, e := cry.Why(x.w, x.hour, horse); e != api.OK || !slices.Equal(why, want) {
				t.Errorf("case %d: why %d: %v %v, not %v", i, horse, why, e, want)
			}
		}
	}
}

func TestSpansHoursSettledAndNeeded(t *testing.T) { // P7.3, P7.5, P7.6
	span := func(l ...int) spans {
		var list spans
		for i := 0; i < len(l); i += 2 {
			list = append(list, api.Range{From: l[i], To: l[i+1]})
		}
		return list
	}
	alike := func(hours ...int) api.Watch {
		w := plain(1, []api.Entry{entry(40, 0, 0, 15, 0)})
		for _, hour := range hours {
			w.Cries = append(w.Cries, lose(entry(0, 0, 0, 15, 0), 0, hour))
		}
		return w
	}
	onlyTwo := plain(3, []api.Entry{entry(5, 0, 1, 15, 0), entry(6, 0, 2, 15, 0)}, lose(entry(1, 0, 3, 15, 0), 0, 1), lose(entry(1, 0, 2, 15, 0), 0, 50), lose(entry(1, 0, 1, 15, 0), 0, 1))
	for i, x := range []struct {
		w              api.Watch
		spans          []spans
		hours, settled int
		needed         ints
	}{
		{exampleS(), []spans{span(10, 72), span(12, 15), nil, nil}, 67, 16, ints{0}}, {exampleT(), []spans{span(10, 72), span(12, 15), nil, nil}, 67, 16, ints{0}},
		{with(), []spans{nil, nil, nil, nil}, 0, 0, nil}, {plain(1, nil), nil, 0, 0, nil}, {ride(0, 9), nil, 0, 0, nil},
		// It is let go and held again: with hours in between, or at the same hour, which is one range.
		{again(20), []spans{span(10, 72), span(12, 15, 20, 72), nil, span(20, 72)}, 173, 20, ints{0, 1}},
		{again(17), []spans{span(10, 72), span(12, 15, 17, 72), nil, span(17, 72)}, 179, 17, ints{0, 1}},
		{again(16), []spans{span(10, 72), span(12, 72), nil, span(16, 72)}, 181, 16, ints{0, 1}},
		{letGo(), []spans{span(10, 19), nil}, 10, 20, nil},
		// The last hour alone; all hours.
		{alike(72), []spans{span(72, 72)}, 1, 72, ints{0}}, {plain(1, []api.Entry{entry(0, 0, 0, 15, 0)}, lose(entry(0, 0, 0, 15, 0), 0, 0)), []spans{span(0, 72)}, 73, 0, ints{0}},
		// A horse that is held for several cries is held once; the first one of them is enough.
		{alike(41, 50, 45), []spans{span(41, 72)}, 32, 41, ints{0}}, {alike(50, 3, 45), []spans{span(40, 72)}, 33, 40, ints{0}},
		{eitherOne(), []spans{span(3, 72), span(5, 72)}, 138, 5, ints{0}}, {byTurns(), []spans{span(9, 72)}, 64, 9, ints{0}},
		// A cry for which no horse is held can be needed.
		{fewer(), []spans{span(10, 72), span(12, 15), nil, nil}, 67, 16, ints{0, 1}},
		// Only the last two are.
		{onlyTwo, []spans{span(5, 72), span(50, 72)}, 91, 50, ints{1, 2}},
	} {
		for horse, want := range x.spans {
			if l, e := cry.Spans(x.w, horse); e != api.OK || !slices.Equal(l, want) {
				t.Errorf("case %d: spans of %d: %v %v, not %v", i, horse, l, e, want)
			}
		}
		hours, e := cry.Hours(x.w)
		settled, f := cry.Settled(x.w)
		needed, g := cry.Needed(x.w)
		if e != api.OK || f != api.OK || g != api.OK || hours != x.hours || settled != x.settled || !slices.Equal(needed, x.needed) {
			t.Errorf("case %d: %d %v, %d %v, %v %v, not %d, %d, %v", i, hours, e, settled, f, needed, g, x.hours, x.settled, x.needed)
		}
	}
}

func TestFoundAndVerdict(t *testing.T) { // P7.4
	away := func(most int, coats ...int) api.Watch {
		w := plain(most, []api.Entry{entry(3, 0, 1, 15, 0)})
		for _, coat := range coats {
			w.Cries = append(w.Cries, lose(entry(1, 0, coat, 15, 0), 0, 1))
		}
		return w
	}
	one := plain(1, []api.Entry{entry(30, 0, 0, 15, 0), entry(20, 0, 0, 15, 0), entry(20, 0, 0, 15, 0)}, lose(entry(1, 0, 0, 15, 0), 0, 5), lose(entry(1, 0, 0, 15, 0), 0, 40))
	for i, x := range []struct {
		w                api.Watch
		cry, hour, horse int
		e                api.Errno
		verdict          int
	}{
		{exampleS(), 0, 16, 0, api.OK, api.Surely}, {exampleT(), 0, 16, 0, api.OK, api.Surely}, {change(exampleS(), func(w *api.Watch) { w.Fair.Most = 6 }), 0, 0, 0, api.ErrVoid, api.MayBe},
		{change(exampleS(), func(w *api.Watch) { w.Cries[0].Town, w.Cries[0].Hour = 0, 30 }), 0, 30, 0, api.OK, api.Surely},
		// The first hour, and the first horse at it, though one with a lesser number is known later.
		{one, 0, 20, 1, api.OK, api.Surely}, {one, 1, 40, 0, api.OK, api.Surely},
		// It surely is there, but no horse surely is the one.
		{eitherOne(), 0, 0, 0, api.ErrVoid, api.Surely},
		// It is the one of another cry in each way in which it is not the horse, so that it never is alone; the other cry's never is there.
		{byTurns(), 0, 0, 0, api.ErrVoid, api.MayBe}, {byTurns(), 1, 0, 0, api.ErrVoid, api.Never},
		// It is one horse just with those of other cries.
		{away(2, 4, 4), 0, 0, 0, api.ErrVoid, api.Never}, {away(2, 4, 4), 1, 0, 0, api.ErrVoid, api.Never}, {away(2, 4, 1, 4), 2, 0, 0, api.ErrVoid, api.Never}, {away(2, 4, 1, 4), 1, 3, 0, api.OK, api.Surely},
		{away(1, 1, 1, 1), 1, 3, 0, api.OK, api.Surely}, {away(3, 1, 1, 1), 2, 0, 0, api.ErrVoid, api.MayBe}, {away(3, 4), 0, 0, 0, api.ErrVoid, api.Never},
		// It may be the horse just until the second cry comes.
		{letGo(), 0, 0, 0, api.ErrVoid, api.Never}, {letGo(), 1, 0, 0, api.ErrVoid, api.Never},
		// All that is known at the last hour counts: the cry, and an entry that takes the room of one horse more.
		{plain(2, []api.Entry{entry(72, 0, 1, 15, 0)}, lose(entry(1, 0, 1, 15, 0), 0, 72)), 0, 0, 0, api.ErrVoid, api.MayBe},
		{plain(2, []api.Entry{entry(3, 0, 1, 15, 0), entry(72, 0, 2, 15, 0)}, lose(entry(1, 0, 1, 15, 0), 0, 1)), 0, 72, 0, api.OK, api.Surely},
		{plain(1, []api.Entry{entry(72, 0, 1, 15, 0)}, lose(entry(72, 0, 1, 15, 0), 0, 72)), 0, 72, 0, api.OK, api.Surely},
		// There are no entries.
		{ride(0, 9), 0, 0, 0, api.ErrVoid, api.Never},
	} {
		hour, horse, e := cry.Found(x.w, x.cry)
		verdict, f := cry.Verdict(x.w, x.cry)
		if hour != x.hour || horse != x.horse || e != x.e || verdict != x.verdict || f != api.OK {
			t.Errorf("case %d: %d %d %v, %d %v, not %d %d %v, %d", i, hour, horse, e, verdict, f, x.hour, x.horse, x.e, x.verdict)
		}
	}
}

func TestTheFewestThatAreNeeded(t *testing.T) { // P7.6
	for i, x := range []struct {
		w    api.Watch
		want ints
	}{
		{exampleS(), ints{0}}, {fewer(), ints{0, 1}}, {again(20), ints{0, 1}}, {with(), nil},
		// Of several lists the first one.
		{plain(2, []api.Entry{entry(5, 0, 1, 15, 0)}, lose(entry(1, 0, 1, 15, 0), 0, 1), lose(entry(1, 0, 1, 15, 0), 0, 1)), ints{0}},
		{plain(2, []api.Entry{entry(5, 0, 1, 15, 0)}, lose(entry(1, 0, 2, 15, 0), 0, 1), lose(entry(1, 0, 1, 15, 0), 0, 9), lose(entry(1, 0, 1, 15, 0), 0, 1)), ints{1}},
		{plain(3, []api.Entry{entry(5, 0, 1, 15, 0), entry(5, 0, 2, 15, 0)}, lose(entry(1, 0, 1, 15, 0), 0, 1), lose(entry(1, 0, 2, 15, 0), 0, 9), lose(entry(1, 0, 2, 15, 0), 0, 1)), ints{0, 1}},
		{plain(3, []api.Entry{entry(5, 0, 1, 15, 0), entry(5, 0, 2, 15, 0)}, lose(entry(1, 0, 1, 15, 0), 0, 1), lose(entry(1, 0, 1, 15, 0), 0, 9), lose(entry(1, 0, 2, 15, 0), 0, 1)), ints{0, 2}},
		{threeCoats(), ints{0, 1, 2}},
		// One that never comes does not help; one that comes at the last hour does.
		{change(exampleS(), func(w *api.Watch) { w.Cries = append([]api.Cry{lose(w.Cries[0].Lost, 1, 72)}, w.Cries...) }), ints{1}},
		{plain(1, []api.Entry{entry(72, 0, 1, 15, 0)}, lose(entry(72, 0, 1, 15, 0), 0, 72)), ints{0}},
		// No horse is held at the end, though one was before.
		{letGo(), nil},
	} {
		if l, e := cry.Needed(x.w); e != api.OK || !slices.Equal(l, x.want) {
			t.Errorf("case %d: %v %v, not %v", i, l, e, x.want)
		}
	}
}

func TestAdd(t *testing.T) { // P7.6
	three := plain(1, slices.Repeat([]api.Entry{entry(5, 0, 1, 15, 0)}, 3), slices.Repeat([]api.Cry{lose(entry(1, 0, 1, 15, 0), 0, 1)}, 3)...)
	six := plain(6, slices.Repeat([]api.Entry{entry(5, 0, 1, 15, 0)}, 6))
	for i, x := range []struct {
		w    api.Watch
		c    api.Cry
		want api.Errno
	}{
		{exampleS(), lose(entry(0, 0, 3, 10, 0), 2, 20), api.ErrFalse}, {exampleS(), lose(entry(1, 1, 2, 14, 0), 1, 70), api.OK}, {exampleS(), lose(entry(6, 0, 1, 15, 0, 0), 0, 72), api.OK}, {exampleS(), lose(entry(5, 0, 1, 15, 0, 0), 0, 72), api.ErrFalse},
		{with(), lose(entry(0, 0, 1, 15, 0), 0, 0), api.OK}, {plain(1, nil), lose(entry(0, 0, 1, 15, 0), 0, 0), api.OK}, {plain(1, nil), lose(entry(0, 0, 1, 15, 0), 1, 0), api.ErrNobody},
		{again(20), lose(entry(0, 0, 1, 15, 0), 0, 0), api.ErrOver}, {again(20), lose(entry(0, 0, 1, 15, 9), 9, 99), api.ErrClass}, {three, lose(entry(99, 9, 9, 9, 9), 9, 99), api.ErrOver}, {three, three.Cries[0], api.ErrOver},
		{six, lose(entry(0, 0, 1, 15, 0), 0, 0), api.ErrOver}, {six, lose(entry(0, 1, 1, 15, 0), 0, 0), api.ErrNobody}, {six, lose(entry(1, 0, 1, 15, 0), 0, 0), api.ErrTurn}, {six, lose(entry(1, 0, 1, 15, 0), 0, 73), api.ErrFigure},
	} {
		w, e := cry.Add(x.w, x.c)
		due := api.Watch{}
		if e == api.OK {
			due = change(x.w, func(w *api.Watch) { w.Cries = append(w.Cries, x.c) })
		}
		if e != x.want || !sameWatch(w, due) {
			t.Errorf("case %d: %v %v, not %v %v", i, w, e, due, x.want)
		}
	}
	w, e := cry.Add(exampleS(), lose(entry(1, 1, 2, 14, 0), 1, 70))
	if _, f := cry.Arrival(w, 1); e != api.OK || f != api.ErrVoid {
		t.Errorf("the cry that is added comes: %v %v", e, f)
	}
	for _, x := range badWatches() {
		if w, e := cry.Add(x.w, lose(entry(-1, 0, 0, 0, 0), 0, 0)); e != x.want || !sameWatch(w, api.Watch{}) {
			t.Errorf("%s: Add returns %v %v, not %v", x.name, w, e, x.want)
		}
	}
	for _, x := range badCries() {
		w := x.w
		w.Cries = w.Cries[:len(w.Cries)-1]
		if cry.Check(w) != api.OK {
			continue
		}
		if w, e := cry.Add(w, x.w.Cries[len(x.w.Cries)-1]); e != x.want || !sameWatch(w, api.Watch{}) {
			t.Errorf("%s: Add returns %v %v, not %v", x.name, w, e, x.want)
		}
	}
}
