package mark_test

import (
	"slices"
	"testing"

	"palfrey/api"
	"palfrey/mark"
)

func entry(hour, place, coat, height, shod int, marks ...int) api.Entry {
	return api.Entry{Hour: hour, Place: place, Coat: coat, Marks: marks, Height: height, Shod: shod}
}

// exampleT is T of the chapter's examples, exampleS is S, exampleU is U.
func exampleT() api.Fair {
	return api.Fair{
		Roads: [][]int{{0, 2}, {2, 0}}, Shoe: api.Range{From: 1, To: 2}, Dye: 3, Most: 3,
		Entries: []api.Entry{
			entry(0, 0, 1, 15, api.Bare, 0),
			entry(3, 1, 1, 16, api.Shod, 0),
			entry(4, 0, 1, 15, api.Unsure, 0, 2),
			entry(10, 0, 2, 14, api.Bare),
			entry(12, 0, 1, 15, api.Bare, 2),
		},
	}
}

func exampleS() api.Fair { return keep(exampleT(), 0, 1, 2, 3) }

func exampleU() api.Fair { return change(exampleS(), func(f *api.Fair) { f.Most = 2 }) }

func change(f api.Fair, how func(f *api.Fair)) api.Fair {
	how(&f)
	return f
}

// plain has one place, the road 0, no shoes, and Dye 1: entries are one horse unless they say otherwise.
func plain(most int, entries ...api.Entry) api.Fair {
	return api.Fair{Roads: [][]int{{0}}, Dye: 1, Most: most, Entries: entries}
}

func withRoads(roads ...[]int) api.Fair {
	return change(exampleS(), func(f *api.Fair) { f.Roads = roads })
}

func withShoe(from, to int) api.Fair {
	return change(exampleS(), func(f *api.Fair) { f.Shoe = api.Range{From: from, To: to} })
}

func withNumbers(dye, most int) api.Fair {
	return change(exampleS(), func(f *api.Fair) { f.Dye, f.Most = dye, most })
}

func withEntries(entries ...api.Entry) api.Fair {
	return change(exampleS(), func(f *api.Fair) { f.Entries = entries })
}

type checked struct {
	name string
	f    api.Fair
	want api.Errno
}

func badFairs() []checked {
	zero := make([]api.Entry, api.MaxEntries+1)
	return []checked{
		{"no places", withRoads(), api.ErrUnder},
		{"four places", withRoads(nil, nil, nil, nil), api.ErrOver},
		{"no places, and all else wrong", api.Fair{Shoe: api.Range{From: 9}, Entries: zero}, api.ErrUnder},
		{"a short list", withRoads([]int{0, 2}, []int{2}), api.ErrFalse},
		{"a long list", withRoads([]int{0, 2, 2}, []int{2, 0}), api.ErrFalse},
		{"a number in the first list, a short second one", withRoads([]int{0, 10}, []int{0}), api.ErrFigure},
		{"a short first list, a number in the second one", withRoads([]int{0}, []int{10, 0}), api.ErrFalse},
		{"a road of 10", withRoads([]int{0, 10}, []int{10, 0}), api.ErrFigure},
		{"a road of -1", withRoads([]int{0, -1}, []int{-1, 0}), api.ErrFigure},
		{"another road back, and a number after it", withRoads([]int{0, 3}, []int{2, 10}), api.ErrFigure},
		{"another road back", withRoads([]int{0, 2}, []int{3, 0}), api.ErrFalse},
		{"a road to itself", withRoads([]int{0, 2}, []int{2, 1}), api.ErrFalse},
		{"a road longer than two", withRoads([]int{0, 2, 5}, []int{2, 0, 2}, []int{5, 2, 0}), api.ErrFalse},
		{"roads, then shoes", change(withShoe(9, 9), func(f *api.Fair) { f.Roads = [][]int{{1}} }), api.ErrFalse},
		{"shoes from -1", withShoe(-1, 1), api.ErrFigure},
		{"shoes to 4", withShoe(1, 4), api.ErrFigure},
		{"shoes from 4 to 1", withShoe(4, 1), api.ErrFigure},
		{"shoes from 3 to -1", withShoe(3, -1), api.ErrFigure},
		{"shoes turned", withShoe(2, 1), api.ErrTurn},
		{"shoes turned, then dye", change(withShoe(2, 1), func(f *api.Fair) { f.Dye = 0 }), api.ErrTurn},
		{"dye 0", withNumbers(0, 3), api.ErrFigure},
		{"dye 7", withNumbers(7, 3), api.ErrFigure},
		{"most 0", withNumbers(3, 0), api.ErrFigure},
		{"most 7", withNumbers(3, 7), api.ErrFigure},
		{"most 7, then entries", change(withNumbers(3, 7), func(f *api.Fair) { f.Entries = zero }), api.ErrFigure},
		{"seven entries", withEntries(zero...), api.ErrOver},
		{"seven entries, one wrong", withEntries(append(slices.Clone(zero[1:]), entry(-1, 0, 0, 0, 0))...), api.ErrOver},
	}
}

type badEntry struct {
	name string
	n    api.Entry
	want api.Errno
}

// badEntries are wrong in a fair of two places; what is wrong after the first error does not matter.
func badEntries() []badEntry {
	return []badEntry{
		{"hour -1", entry(-1, 0, 0, 0, 0), api.ErrFigure},
		{"hour 73, place 2", entry(73, 2, 0, 0, 0), api.ErrFigure},
		{"place -1, coat 6", entry(0, -1, 6, 0, 0), api.ErrNobody},
		{"place 2", entry(0, 2, 0, 0, 0), api.ErrNobody},
		{"coat -1, mark 9", entry(0, 0, -1, 0, 0, 9), api.ErrFigure},
		{"coat 6", entry(0, 0, 6, 0, 0), api.ErrFigure},
		{"mark 5, height 31", entry(0, 0, 0, 31, 0, 5), api.ErrNobody},
		{"mark -1", entry(0, 0, 0, 0, 0, -1), api.ErrNobody},
		{"marks 2 2, height -1", entry(0, 0, 0, -1, 0, 2, 2), api.ErrTurn},
		{"marks 2 1, then 9", entry(0, 0, 0, 0, 0, 2, 1, 9), api.ErrTurn},
		{"mark 9, then 1 0", entry(0, 0, 0, 0, 0, 9, 1, 0), api.ErrNobody},
		{"marks 0 to 4, then 4", entry(0, 0, 0, 0, 0, 0, 1, 2, 3, 4, 4), api.ErrTurn},
		{"height -1, shod 3", entry(0, 0, 0, -1, 3), api.ErrFigure},
		{"height 31", entry(0, 0, 0, 31, 0), api.ErrFigure},
		{"shod -1", entry(0, 0, 0, 0, -1), api.ErrClass},
		{"shod 3", entry(0, 0, 0, 0, 3), api.ErrClass},
	}
}

func TestCheckReturnsTheFirstError(t *testing.T) { // P1.1
	good := []api.Fair{
		exampleS(), exampleT(), exampleU(), withEntries(),
		withRoads([]int{0, 9}, []int{9, 0}), withRoads([]int{0, 0}, []int{0, 0}),
		withRoads([]int{0, 2, 4}, []int{2, 0, 2}, []int{4, 2, 0}),
		withShoe(0, 0), withShoe(0, 3), withShoe(3, 3), withNumbers(1, 1), withNumbers(6, 6),
		withEntries(make([]api.Entry, api.MaxEntries)...),
		withEntries(entry(72, 1, 5, 30, 2, 0, 1, 2, 3, 4), entry(0, 0, 0, 0, 0)),
	}
	for i, f := range good {
		if e := mark.Check(f); e != api.OK {
			t.Errorf("good fair %d: %v", i, e)
		}
	}
	for _, x := range badFairs() {
		if e := mark.Check(x.f); e != x.want {
			t.Errorf("%s: %v, not %v", x.name, e, x.want)
		}
	}
	for _, x := range badEntries() {
		first := withEntries(x.n, entry(-1, 9, 9, 99, 9))
		last := withEntries(entry(1, 1, 1, 1, 1), x.n)
		if e := mark.Check(first); e != x.want {
			t.Errorf("%s first: %v, not %v", x.name, e, x.want)
		}
		if e := mark.Check(last); e != x.want {
			t.Errorf("%s last: %v, not %v", x.name, e, x.want)
		}
	}
	roads := change(withEntries(entry(0, 1, 0, 0, 0)), func(f *api.Fair) { f.Roads = [][]int{{0}} })
	if e := mark.Check(roads); e != api.ErrNobody {
		t.Errorf("the second of one place: %v", e)
	}
}

func TestCan(t *testing.T) { // P1.2
	fair := exampleT()
	for _, x := range []struct {
		list []int
		want bool
	}{
		{[]int{0}, true}, {[]int{3}, true}, {[]int{0, 1}, true}, {[]int{0, 2}, true}, {[]int{1, 4}, true},
		{[]int{0, 1, 4}, true}, {[]int{0, 2, 4}, true},
		{[]int{0, 1, 2}, false}, {[]int{1, 2}, false}, {[]int{0, 3}, false}, {[]int{0, 1, 2, 3, 4}, false},
	} {
		if can, e := mark.Can(fair, x.list); can != x.want || e != api.OK {
			t.Errorf("%v: %v %v", x.list, can, e)
		}
	}
}

func TestHeights(t *testing.T) { // P1.2
	one := func(from, to int, n ...api.Entry) api.Fair {
		f := plain(1, n...)
		f.Shoe = api.Range{From: from, To: to}
		return f
	}
	for i, x := range []struct {
		f    api.Fair
		list []int
		want []int
	}{
		{exampleS(), []int{0}, []int{15}},
		{exampleS(), []int{1}, []int{14, 15}},
		{exampleS(), []int{2}, []int{13, 14, 15}},
		{exampleS(), []int{0, 1}, []int{15}},
		{exampleS(), []int{1, 2}, []int{14, 15}},
		{exampleS(), []int{1, 2, 3}, []int{14}},
		{exampleS(), []int{0, 3}, nil},
		{one(2, 3, entry(0, 0, 0, 9, api.Unsure)), []int{0}, []int{6, 7, 9}},
		{one(0, 1, entry(0, 0, 0, 9, api.Unsure)), []int{0}, []int{8, 9}},
		{one(0, 0, entry(0, 0, 0, 9, api.Shod)), []int{0}, []int{9}},
		{one(0, 3, entry(0, 0, 0, 0, api.Shod)), []int{0}, []int{-3, -2, -1, 0}},
		{one(3, 3, entry(0, 0, 0, 30, api.Bare)), []int{0}, []int{30}},
		{one(1, 3, entry(0, 0, 0, 2, api.Shod), entry(0, 0, 1, 0, api.Shod, 3)), []int{0, 1}, []int{-1}},
		{one(1, 3, entry(0, 0, 0, 0, api.Shod), entry(9, 0, 0, 0, api.Bare)), []int{0, 1}, nil},
		{one(2, 3, entry(0, 0, 0, 9, api.Unsure), entry(9, 0, 0, 8, api.Bare)), []int{0, 1}, nil},
	} {
		if l, e := mark.Heights(x.f, x.list); !slices.Equal(l, x.want) || e != api.OK {
			t.Errorf("%d: %v %v", i, l, e)
		}
	}
}

func TestListErrors(t *testing.T) { // P1.2
	for i, x := range []struct {
		list []int
		want api.Errno
	}{
		{nil, api.ErrUnder}, {[]int{}, api.ErrUnder}, {[]int{4}, api.ErrNobody}, {[]int{-1}, api.ErrNobody},
		{[]int{1, 0}, api.ErrTurn}, {[]int{2, 2}, api.ErrTurn}, {[]int{0, 4}, api.ErrNobody},
		{[]int{1, 0, 9}, api.ErrTurn}, {[]int{1, 9, 0}, api.ErrNobody}, {[]int{1, -1}, api.ErrNobody},
	} {
		if can, e := mark.Can(exampleS(), x.list); can || e != x.want {
			t.Errorf("Can %d: %v %v", i, can, e)
		}
		if l, e := mark.Heights(exampleS(), x.list); len(l) != 0 || e != x.want {
			t.Errorf("Heights %d: %v %v", i, l, e)
		}
	}
	if _, e := mark.Can(withEntries(), []int{0}); e != api.ErrNobody {
		t.Error("an entry of none:", e)
	}
}

func TestReason(t *testing.T) { // P1.2
	for i, x := range []struct {
		a, b api.Entry
		want int
	}{
		{entry(0, 0, 0, 9, api.Bare), entry(0, 1, 1, 8, api.Bare, 1), api.ByCoat},
		{entry(0, 0, 0, 9, api.Bare), entry(0, 1, 0, 8, api.Bare, 1), api.ByHeight},
		{entry(0, 0, 0, 9, api.Bare), entry(1, 1, 0, 9, api.Bare), api.ByHours},
		{entry(0, 0, 0, 9, api.Bare), entry(2, 1, 0, 9, api.Bare), 0},
		{entry(0, 0, 0, 9, api.Bare), entry(2, 0, 0, 9, api.Bare, 1), api.ByHours},
		{entry(0, 0, 0, 9, api.Bare), entry(3, 0, 0, 9, api.Bare, 1), 0},
		{entry(0, 0, 0, 9, api.Bare, 1, 3), entry(5, 0, 0, 9, api.Bare, 1, 2), api.ByHours},
		{entry(0, 0, 0, 9, api.Bare, 1, 3), entry(6, 0, 0, 9, api.Bare, 1, 2), 0},
		{entry(0, 0, 0, 9, api.Bare, 1), entry(4, 1, 0, 9, api.Bare), api.ByHours},
		{entry(0, 0, 0, 9, api.Bare, 1), entry(5, 1, 0, 9, api.Bare), 0},
		{entry(7, 0, 0, 9, api.Bare), entry(7, 0, 0, 9, api.Bare), 0},
		{entry(7, 0, 0, 9, api.Bare), entry(7, 1, 0, 9, api.Bare), api.ByHours},
		{entry(7, 0, 0, 9, api.Bare), entry(7, 0, 0, 9, api.Bare, 4), api.ByHours},
	} {
		f := withEntries(x.a, x.b)
		for _, n := range [][2]int{{0, 1}, {1, 0}} {
			if r, e := mark.Reason(f, n[0], n[1]); r != x.want || e != api.OK {
				t.Errorf("%d: Reason of %v is %d %v", i, n, r, e)
			}
		}
		if can, e := mark.Can(f, []int{0, 1}); can != (x.want == 0) || e != api.OK {
			t.Errorf("%d: Can is %v %v", i, can, e)
		}
		if r, e := mark.Reason(f, 1, 1); r != 0 || e != api.OK {
			t.Errorf("%d: an entry and itself: %d %v", i, r, e)
		}
	}
	free := change(withEntries(entry(7, 0, 0, 9, 0), entry(7, 1, 0, 9, 0)), func(f *api.Fair) { f.Roads = [][]int{{0, 0}, {0, 0}} })
	if r, e := mark.Reason(free, 0, 1); r != 0 || e != api.OK {
		t.Error("two places with the road 0:", r, e)
	}
	if r, e := mark.Reason(exampleU(), 0, 1); r != 0 || e != api.OK {
		t.Error("without a way:", r, e)
	}
}

func TestHorsesGoThroughAllPlaces(t *testing.T) { // P1.2: from each entry to the next one, by hours, not by numbers
	f := withRoads([]int{0, 2, 4}, []int{2, 0, 2}, []int{4, 2, 0})
	f.Entries = []api.Entry{entry(8, 2, 0, 9, 0), entry(4, 0, 0, 9, 0), entry(6, 1, 0, 9, 0)}
	if can, e := mark.Can(f, []int{0, 1, 2}); !can || e != api.OK {
		t.Error(can, e)
	}
	f.Entries[2].Hour = 5
	if can, e := mark.Can(f, []int{0, 1, 2}); can || e != api.OK {
		t.Error(can, e)
	}
	if can, e := mark.Can(f, []int{0, 1}); !can || e != api.OK {
		t.Error(can, e)
	}
}

// free returns a fair of entries that all can be one horse.
func free(most, entries int) api.Fair { return plain(most, make([]api.Entry, entries)...) }

func TestCountAndHorses(t *testing.T) { // P1.3
	for i, x := range []struct {
		f     api.Fair
		count int
		want  api.Range
	}{
		{exampleS(), 2, api.Range{From: 3, To: 3}},
		{exampleT(), 4, api.Range{From: 3, To: 3}},
		{withEntries(), 1, api.Range{}},
		{free(1, 1), 1, api.Range{From: 1, To: 1}},
		{free(6, 6), 203, api.Range{From: 1, To: 6}},
		{free(3, 6), 122, api.Range{From: 1, To: 3}},
		{free(1, 6), 1, api.Range{From: 1, To: 1}},
		{free(2, 5), 16, api.Range{From: 1, To: 2}},
	} {
		if n, e := mark.Count(x.f); n != x.count || e != api.OK {
			t.Errorf("%d: Count is %d %v", i, n, e)
		}
		if r, e := mark.Horses(x.f); r != x.want || e != api.OK {
			t.Errorf("%d: Horses is %v %v", i, r, e)
		}
	}
	if n, e := mark.Count(exampleU()); n != 0 || e != api.OK {
		t.Error("Count without a way:", n, e)
	}
	if r, e := mark.Horses(exampleU()); r != (api.Range{}) || e != api.ErrVoid {
		t.Error("Horses without a way:", r, e)
	}
}

func TestFewest(t *testing.T) { // P1.4
	turns := free(4, 4)
	turns.Entries[1].Marks = []int{0}
	turns.Entries[3].Marks = []int{0}
	for i, x := range []struct {
		f      api.Fair
		way    []int
		horses int
		e      api.Errno
	}{
		{exampleS(), []int{0, 0, 1, 2}, 3, api.OK},
		{exampleT(), []int{0, 0, 1, 2, 0}, 3, api.OK},
		{exampleU(), nil, 0, api.ErrVoid},
		{withEntries(), nil, 0, api.OK},
		{free(6, 6), []int{0, 0, 0, 0, 0, 0}, 1, api.OK},
		{turns, []int{0, 1, 0, 1}, 2, api.OK},
		{twoOrTwo(), []int{0, 0, 1, 1}, 2, api.OK},
		{firstIsMore(), []int{0, 1, 0, 1}, 2, api.OK},
		{withEntries(entry(0, 0, 1, 9, 0), entry(0, 0, 0, 9, 0), entry(0, 1, 1, 9, 0)), []int{0, 1, 2}, 3, api.OK},
		{withEntries(entry(0, 0, 1, 9, 0), entry(0, 1, 1, 9, 0), entry(9, 0, 1, 9, 0)), []int{0, 1, 0}, 2, api.OK},
	} {
		way, horses, e := mark.Fewest(x.f)
		if !slices.Equal(way, x.way) || horses != x.horses || e != x.e {
			t.Errorf("%d: %v %d %v", i, way, horses, e)
		}
	}
}

// heights returns entries of one hour, with the heights that they are in shoes, or one less, or just that if bare.
func heights(most int, entries ...api.Entry) api.Fair {
	return change(plain(most, entries...), func(f *api.Fair) { f.Shoe = api.Range{From: 1, To: 1} })
}

// twoOrTwo has two ways with the fewest horses: 0 is one with 1, or with 2 and 3.
func twoOrTwo() api.Fair {
	return heights(6, entry(0, 0, 0, 9, api.Unsure), entry(0, 0, 0, 9, api.Bare), entry(0, 0, 0, 8, api.Bare), entry(0, 0, 0, 8, api.Bare))
}

// firstIsMore has 0 0 1 2 for its first way: if 0 and 1 are one horse, 2 and 3 are one more each.
func firstIsMore() api.Fair {
	return heights(6, entry(0, 0, 0, 9, api.Unsure), entry(0, 0, 0, 10, api.Unsure), entry(0, 0, 0, 8, api.Unsure), entry(0, 0, 0, 11, api.Unsure))
}

func TestSame(t *testing.T) { // P1.5
	pair := keep(exampleS(), 0, 1)
	for i, x := range []struct {
		f    api.Fair
		x, y int
		want int
		e    api.Errno
	}{
		{exampleS(), 0, 1, api.MayBe, api.OK}, {exampleS(), 1, 0, api.MayBe, api.OK}, {exampleS(), 1, 2, api.Never, api.OK},
		{exampleS(), 3, 3, api.Surely, api.OK}, {exampleS(), 0, 0, api.Surely, api.OK},
		{change(pair, func(f *api.Fair) { f.Most = 1 }), 0, 1, api.Surely, api.OK},
		{exampleU(), 0, 0, 0, api.ErrVoid}, {exampleU(), 0, 4, 0, api.ErrNobody}, {exampleU(), -1, 0, 0, api.ErrNobody},
		{exampleS(), 4, 0, 0, api.ErrNobody}, {exampleS(), 0, -1, 0, api.ErrNobody}, {withEntries(), 0, 0, 0, api.ErrNobody},
	} {
		if v, e := mark.Same(x.f, x.x, x.y); v != x.want || e != x.e {
			t.Errorf("%d: %d %v", i, v, e)
		}
	}
}

func TestGroups(t *testing.T) { // P1.5
	for i, x := range []struct {
		f    api.Fair
		want []int
		e    api.Errno
	}{
		{exampleS(), []int{0, 1, 2, 3}, api.OK},
		{change(keep(exampleS(), 0, 1), func(f *api.Fair) { f.Most = 1 }), []int{0, 0}, api.OK},
		{change(keep(exampleS(), 0, 3, 1), func(f *api.Fair) { f.Most = 2 }), []int{0, 1, 0}, api.OK},
		{change(keep(exampleT(), 3, 0, 1, 4), func(f *api.Fair) { f.Most = 2 }), []int{0, 1, 1, 1}, api.OK},
		{withEntries(), nil, api.OK}, {free(1, 6), make([]int, 6), api.OK}, {exampleU(), nil, api.ErrVoid},
	} {
		if l, e := mark.Groups(x.f); !slices.Equal(l, x.want) || e != x.e {
			t.Errorf("%d: %v %v", i, l, e)
		}
	}
}

func TestAlone(t *testing.T) { // P1.6
	for i, x := range []struct {
		f    api.Fair
		x    int
		want int
		e    api.Errno
	}{
		{exampleS(), 3, api.Surely, api.OK}, {exampleS(), 0, api.Never, api.OK}, {exampleS(), 1, api.MayBe, api.OK},
		{free(1, 1), 0, api.Surely, api.OK}, {free(1, 2), 1, api.Never, api.OK},
		{exampleS(), 4, 0, api.ErrNobody}, {exampleS(), -1, 0, api.ErrNobody}, {exampleU(), 0, 0, api.ErrVoid}, {exampleU(), 4, 0, api.ErrNobody},
	} {
		if v, e := mark.Alone(x.f, x.x); v != x.want || e != x.e {
			t.Errorf("%d: %d %v", i, v, e)
		}
	}
}

func TestThrough(t *testing.T) { // P1.6
	three := change(keep(exampleT(), 0, 3, 1, 4), func(f *api.Fair) { f.Most = 2 })
	for i, x := range []struct {
		f    api.Fair
		x, y int
		want []int
		e    api.Errno
	}{
		{exampleS(), 0, 1, []int{0, 1}, api.OK}, {exampleS(), 1, 0, []int{0, 1}, api.OK}, {exampleS(), 3, 3, []int{3}, api.OK},
		{exampleS(), 0, 0, []int{0}, api.OK}, {exampleS(), 1, 2, nil, api.ErrVoid},
		{three, 0, 0, []int{0, 2, 3}, api.OK}, {three, 3, 2, []int{0, 2, 3}, api.OK}, {three, 1, 1, []int{1}, api.OK}, {three, 0, 1, nil, api.ErrVoid},
		{twoOrTwo(), 2, 3, []int{2, 3}, api.OK},
		{exampleU(), 0, 0, nil, api.ErrVoid}, {exampleU(), 0, 4, nil, api.ErrNobody}, {exampleS(), 4, 0, nil, api.ErrNobody}, {exampleS(), 0, -1, nil, api.ErrNobody},
	} {
		if l, e := mark.Through(x.f, x.x, x.y); !slices.Equal(l, x.want) || e != x.e {
			t.Errorf("%d: %v %v", i, l, e)
		}
	}
}

func TestWrong(t *testing.T) { // P1.7
	coats := func(most int, coats ...int) api.Fair {
		f := free(most, len(coats))
		for i, c := range coats {
			f.Entries[i].Coat = c
		}
		return f
	}
	for i, x := range []struct {
		f    api.Fair
		want []int
	}{
		{exampleS(), nil}, {exampleU(), []int{1}}, {withEntries(), nil},
		{coats(1, 0, 1, 0), []int{1}}, {coats(1, 1, 0, 1), []int{1}}, {coats(1, 0, 1), []int{0}},
		{coats(1, 0, 0, 1, 1), []int{0, 1}}, {coats(2, 0, 1, 2, 3), []int{0, 1}}, {coats(2, 0, 1, 2, 0, 1, 1), []int{2}},
		{coats(1, 5, 4, 3, 2, 1, 0), []int{0, 1, 2, 3, 4}}, {coats(1, 0, 1, 0, 2, 0, 1), []int{1, 3, 5}},
	} {
		if l, e := mark.Wrong(x.f); !slices.Equal(l, x.want) || e != api.OK {
			t.Errorf("%d: %v %v", i, l, e)
		}
	}
}

func TestNext(t *testing.T) { // P1.8
	// Of four entries with two coats in turn, 0 and 2 may be one, 1 and 3 may be one.
	turns := free(4, 4)
	turns.Entries[1].Coat, turns.Entries[3].Coat = 1, 1
	// 1 and 2 may be one, 0 is alone: the pairs of 0 tell nothing.
	late := free(3, 3)
	late.Entries[0].Coat = 1
	// 0 and 3 may be one, and 1 and 2: as much is left, and 0 3 is the first one, though 2 is less than 3.
	cross := free(4, 4)
	cross.Entries[0].Coat, cross.Entries[3].Coat = 1, 1
	for i, x := range []struct {
		f          api.Fair
		x, y, left int
		e          api.Errno
	}{
		{exampleS(), 0, 1, 1, api.OK}, {exampleT(), 0, 1, 2, api.OK},
		{turns, 0, 2, 2, api.OK}, {late, 1, 2, 1, api.OK}, {cross, 0, 3, 2, api.OK},
		{free(2, 2), 0, 1, 1, api.OK}, {free(6, 6), 0, 1, 151, api.OK},
		{free(1, 6), 0, 0, 0, api.ErrVoid}, {free(6, 1), 0, 0, 0, api.ErrVoid}, {withEntries(), 0, 0, 0, api.ErrVoid}, {exampleU(), 0, 0, 0, api.ErrVoid},
	} {
		a, b, left, e := mark.Next(x.f)
		if a != x.x || b != x.y || left != x.left || e != x.e {
			t.Errorf("%d: %d %d %d %v", i, a, b, left, e)
		}
	}
}

func TestAdd(t *testing.T) { // P1.8
	other := entry(12, 0, 3, 15, api.Bare)
	two := change(keep(exampleT(), 0, 1, 2), func(f *api.Fair) { f.Most = 2 })
	for i, x := range []struct {
		f    api.Fair
		n    api.Entry
		want api.Errno
	}{
		{exampleS(), exampleT().Entries[4], api.OK}, {withEntries(), other, api.OK},
		{two, other, api.ErrFalse}, {exampleS(), other, api.ErrFalse}, {exampleU(), other, api.OK},
		{free(1, 5), entry(0, 0, 0, 0, 0), api.OK}, {free(1, 6), entry(0, 0, 0, 0, 0), api.ErrOver}, {free(1, 6), entry(-1, 0, 0, 0, 0), api.ErrOver},
		{withShoe(2, 1), entry(-1, 0, 0, 0, 0), api.ErrTurn},
	} {
		more, e := mark.Add(x.f, x.n)
		want := change(x.f, func(f *api.Fair) { f.Entries = append(slices.Clone(f.Entries), x.n) })
		if x.want != api.OK {
			want = api.Fair{}
		}
		if e != x.want || !sameFair(more, want) {
			t.Errorf("%d: %v %v", i, more, e)
		}
	}
	for _, x := range badEntries() {
		for _, f := range []api.Fair{exampleS(), exampleU()} {
			if more, e := mark.Add(f, x.n); e != x.want || !sameFair(more, api.Fair{}) {
				t.Errorf("%s: %v %v", x.name, more, e)
			}
		}
	}
}

func sameFair(a, b api.Fair) bool {
	same := func(x, y api.Entry) bool {
		l, m := x.Marks, y.Marks
		x.Marks, y.Marks = nil, nil
		return entryNumbers(x) == entryNumbers(y) && slices.Equal(l, m)
	}
	return slices.EqualFunc(a.Entries, b.Entries, same) && slices.EqualFunc(a.Roads, b.Roads, slices.Equal[[]int]) &&
		a.Shoe == b.Shoe && a.Dye == b.Dye && a.Most == b.Most
}

func entryNumbers(n api.Entry) [5]int { return [5]int{n.Hour, n.Place, n.Coat, n.Height, n.Shod} }
