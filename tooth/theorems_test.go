package tooth_test

import (
	"slices"
	"testing"

	"palfrey/api"
	"palfrey/mark"
	"palfrey/tooth"
)

// must returns what a call has returned, and makes an error of it that it should not have returned.
func must[T any](t *testing.T) func(v T, e api.Errno) T {
	return func(v T, e api.Errno) T {
		t.Helper()
		if e != api.OK {
			t.Errorf("%v", e)
		}
		return v
	}
}

// orVoid returns what a call has returned, or, if there is none, its zero value.
func orVoid[T any](t *testing.T) func(v T, e api.Errno) T {
	return func(v T, e api.Errno) T {
		t.Helper()
		if e != api.OK && e != api.ErrVoid {
			t.Errorf("%v", e)
		}
		return v
	}
}

// met makes sure that a test has met each of the cases that it is about.
type met map[string]int

func (m met) need(t *testing.T, cases ...string) {
	t.Helper()
	for _, c := range cases {
		if m[c] == 0 {
			t.Errorf("no sample was about: %s", c)
		}
	}
}

func within(list, all []int) bool {
	return !slices.ContainsFunc(list, func(n int) bool { return !slices.Contains(all, n) })
}

func TestYearByYear(t *testing.T) { // P2.9
	d := dice(9)
	for i := range 200 {
		j := d.jaw()
		mouths := func(age int) []int { return must[[]int](t)(tooth.Mouths(j, age)) }
		if !slices.Equal(mouths(0), []int{0}) {
			t.Errorf("jaw %d: the mouths of a foal are %v", i, mouths(0))
		}
		for age := range api.ToothAge {
			var next []int
			for _, m := range mouths(age) {
				next = append(next, j.Next[m]...)
			}
			if l := mouths(age + 1); !slices.Equal(l, ordered(next)) {
				t.Errorf("jaw %d: Mouths of %d is %v, not %v", i, age+1, l, ordered(next))
			}
		}
		for m := range j.Next {
			shows := must[[]int](t)(tooth.Shows(j, m))
			for age := range api.ToothAge + 1 {
				if slices.Contains(shows, age) != slices.Contains(mouths(age), m) {
					t.Errorf("jaw %d: Shows of %d is %v, Mouths of %d is %v", i, m, shows, age, mouths(age))
				}
			}
			if !slices.IsSorted(shows) || !within(shows, numbers(0, api.ToothAge)) {
				t.Errorf("jaw %d: Shows of %d is %v", i, m, shows)
			}
		}
	}
}

func TestCheatIsTheLeast(t *testing.T) { // P2.10, and Passes of P2.2
	d := dice(10)
	found := met{}
	for i := range 200 {
		j := d.jaw()
		for age := range api.ToothAge + 1 {
			least := must[int](t)(tooth.Cheat(j, age))
			for as := range api.ToothAge + 1 {
				is := must[bool](t)(tooth.Passes(j, age, as))
				if is != modelPasses(j, age, as) {
					t.Errorf("jaw %d: Passes of %d as %d is %v", i, age, as, is)
				}
				if is && as < least || !is && as == least {
					t.Errorf("jaw %d: Cheat of %d is %d, Passes as %d is %v", i, age, least, as, is)
				}
				if is && as > age {
					found["older"]++
				}
			}
			if least > age {
				t.Errorf("jaw %d: Cheat of %d is %d", i, age, least)
			}
			if least < age {
				found["younger"]++
			}
		}
	}
	found.need(t, "older", "younger")
}

func TestHonestLooksNeedNoFiling(t *testing.T) { // P2.11
	d := dice(11)
	for i := range 400 {
		j := d.jaw()
		age, mouths := d.course(j, api.ToothYear)
		var l looks
		for _, y := range d.years(i % (api.ToothLooks + 1)) {
			l = append(l, api.Look{Year: y, Seen: mouths[y]})
		}
		if n := must[int](t)(tooth.Filings(j, l)); n != 0 {
			t.Errorf("jaw %d: Filings of %v is %d", i, l, n)
		}
		if a := must[[]int](t)(tooth.Ages(j, l, 0)); !slices.Contains(a, age) {
			t.Errorf("jaw %d: Ages of %v is %v, without %d", i, l, a, age)
		}
	}
}

func TestAllTruths(t *testing.T) { // P2.12, and P0: exact over all truths
	found := met{}
	for i, s := range samples(600) {
		n, e := tooth.Filings(s.j, s.looks)
		r, f := tooth.Age(s.j, s.looks)
		if c := must[int](t)(tooth.Count(s.j, s.looks)); c != len(s.best) {
			t.Errorf("sample %d: Count is %d, not %d", i, c, len(s.best))
		}
		for filings := range api.ToothLooks + 1 {
			want := modelAges(s.all, filings)
			l, e := tooth.Ages(s.j, s.looks, filings)
			if !slices.Equal(l, want) || e == api.OK != (len(want) > 0) || e != api.OK && e != api.ErrVoid {
				t.Errorf("sample %d: Ages with %d is %v %v, not %v", i, filings, l, e, want)
			}
		}
		if len(s.all) == 0 {
			found["no truth"]++
			if e != api.ErrVoid || f != api.ErrVoid || n != 0 || r != (api.Range{}) {
				t.Errorf("sample %d: %d %v %v %v without a truth", i, n, e, r, f)
			}
			continue
		}
		found[[]string{"none", "one", "more", "more", "more"}[n]]++
		ages := modelAges(s.best, n)
		if n != modelFewest(s.all) || e != api.OK {
			t.Errorf("sample %d: Filings is %d %v", i, n, e)
		}
		if r != (api.Range{From: ages[0], To: ages[len(ages)-1]}) || f != api.OK {
			t.Errorf("sample %d: Age is %v %v, not of %v", i, r, f, ages)
		}
	}
	found.need(t, "no truth", "none", "one", "more")
}

func TestCourseIsTheFirst(t *testing.T) { // P2.13
	found := met{}
	for i, s := range samples(600) {
		age, l, e := tooth.Course(s.j, s.looks)
		if len(s.all) == 0 {
			found["void"]++
			if e != api.ErrVoid || age != 0 || len(l) > 0 {
				t.Errorf("sample %d: Course is %d %v %v without a truth", i, age, l, e)
			}
			continue
		}
		if first := s.best[0]; e != api.OK || age != first.age || !slices.Equal(l, first.mouths) {
			t.Errorf("sample %d: Course is %d %v %v, not %v", i, age, l, e, first)
		}
		if s.best[0].filings() != must[int](t)(tooth.Filings(s.j, s.looks)) {
			t.Errorf("sample %d: Course has %d filings", i, s.best[0].filings())
		}
		if len(s.best) > 1 && s.best[1].age == age {
			found["more than one of the age"]++
		}
		if s.all[0].filings() > s.best[0].filings() {
			found["not the first truth"]++
		}
	}
	found.need(t, "void", "more than one of the age", "not the first truth")
}

func TestVerdictOfAll(t *testing.T) { // P2.14, and Verdict of P2.6
	found := met{}
	for i, s := range samples(600) {
		for n := range s.looks {
			v, e := tooth.Verdict(s.j, s.looks, n)
			if len(s.all) == 0 {
				if v != 0 || e != api.ErrVoid {
					t.Errorf("sample %d: Verdict of %d is %d %v", i, n, v, e)
				}
				continue
			}
			if want := modelVerdict(s.best, n); v != want || e != api.OK {
				t.Errorf("sample %d: Verdict of %d is %d %v, not %d", i, n, v, e, want)
			}
			found[[]string{"", "surely", "never", "maybe"}[v]]++
		}
	}
	found.need(t, "surely", "never", "maybe")
}

func TestMoreFilings(t *testing.T) { // P2.15
	found := met{}
	for i, s := range samples(400) {
		before := []int{}
		for filings := range api.ToothLooks + 1 {
			after := orVoid[[]int](t)(tooth.Ages(s.j, s.looks, filings))
			if !within(before, after) {
				t.Errorf("sample %d: the ages %v, with the filing %d %v", i, before, filings, after)
			}
			if len(before) > 0 && len(after) > len(before) {
				found["more"]++
			}
			before = after
		}
	}
	found.need(t, "more")
}

func TestOneLookMore(t *testing.T) { // P2.16
	found := met{}
	d := dice(16)
	for i, s := range possible(samples(400)) {
		if len(s.looks) == api.ToothLooks {
			continue
		}
		more := together(s.looks, seen(d.roll(api.ToothYear+1), d.roll(len(s.j.Next))))
		n := must[int](t)(tooth.Filings(s.j, s.looks))
		m, e := tooth.Filings(s.j, more)
		switch {
		case e == api.ErrVoid:
			found["no truth"]++
		case e != api.OK || m < n:
			t.Errorf("sample %d: %d filings of %v, %d %v of %v", i, n, s.looks, m, e, more)
		case m > n:
			found["more filings"]++
		}
		for filings := range api.ToothLooks + 1 {
			a, b := orVoid[[]int](t)(tooth.Ages(s.j, s.looks, filings)), orVoid[[]int](t)(tooth.Ages(s.j, more, filings))
			if !within(b, a) {
				t.Errorf("sample %d: the ages %v, with one look more %v", i, a, b)
			}
			if len(b) > 0 && len(b) < len(a) {
				found["fewer ages"]++
			}
		}
	}
	found.need(t, "no truth", "more filings", "fewer ages")
}

// agesLeft returns how many ages are left at most by an honest look in the year: with as many filings as before, one look more can be but honest.
func agesLeft(t *testing.T, s sample, year int) int {
	n, most := must[int](t)(tooth.Filings(s.j, s.looks)), 0
	for m := range s.j.Next {
		l := orVoid[[]int](t)(tooth.Ages(s.j, together(s.looks, seen(year, m)), n))
		most = max(most, len(l))
	}
	return most
}

// settles holds Settle against how many ages are left at most by a look in each year.
func settles(t *testing.T, i int, s sample, left func(year int) int, found met) {
	t.Helper()
	year, ages, e := tooth.Settle(s.j, s.looks)
	least, first := len(modelAges(s.best, api.ToothLooks)), -1
	for y := range api.ToothYear + 1 {
		if n := left(y); n < least {
			least, first = n, y
		}
	}
	if first < 0 {
		found["void"]++
		if e != api.ErrVoid || year != 0 || ages != 0 {
			t.Errorf("sample %d: Settle is %d %d %v, but no year helps", i, year, ages, e)
		}
		return
	}
	found[[]string{"no age", "one age", "more ages"}[min(least, 2)]]++
	if e != api.OK || year != first || ages != least {
		t.Errorf("sample %d: Settle is %d %d %v, not %d %d", i, year, ages, e, first, least)
	}
}

func TestSettleIsTheBest(t *testing.T) { // P2.17
	found := met{}
	for i, s := range possible(samples(400)) {
		if len(s.looks) < api.ToothLooks {
			settles(t, i, s, func(y int) int { return agesLeft(t, s, y) }, found)
		}
	}
	found.need(t, "void", "one age", "more ages")
}

func TestSettleOfAll(t *testing.T) { // P2.7
	found := met{}
	for i, s := range samples(300) {
		best := modelBest(modelTruths(s.j, s.looks, api.ToothYear))
		settles(t, i, s, func(y int) int { return modelMost(best, y) }, found)
	}
	found.need(t, "void", "one age", "more ages")
}

func TestAlikeOfAll(t *testing.T) { // P2.18, and Alike of P2.8
	found := met{}
	d := dice(18)
	for i, s := range samples(400) {
		a, b := s.looks, d.looks(s.j, d.roll(api.ToothLooks+1))
		is := must[bool](t)(tooth.Alike(s.j, a, b))
		if is != modelAlike(s.j, a, b) {
			t.Errorf("sample %d: Alike of %v and %v is %v", i, a, b, is)
		}
		if back := must[bool](t)(tooth.Alike(s.j, b, a)); back != is {
			t.Errorf("sample %d: Alike of %v and %v is %v, but %v", i, b, a, back, is)
		}
		if is {
			found["alike"]++
			if n := must[int](t)(tooth.Filings(s.j, a)); n > 0 {
				found["alike, and filed"]++
			}
		} else {
			found["not alike"]++
		}
		n, e := tooth.Filings(s.j, a)
		self := must[bool](t)(tooth.Alike(s.j, a, a))
		if e == api.OK && n == 0 && !self || e != api.OK && self {
			t.Errorf("sample %d: Alike of %v and itself is %v", i, a, self)
		}
	}
	found.need(t, "alike", "alike, and filed", "not alike")
}

// added returns the lists with one more number in one of them, ascending.
func added(lists rows, at, n int) rows {
	more := slices.Clone(lists)
	more[at] = ordered(append(slices.Clone(lists[at]), n))
	return more
}

func TestMoreRules(t *testing.T) { // P2.19
	found := met{}
	d := dice(19)
	for i, s := range samples(400) {
		at, n := d.roll(len(s.j.Next)), d.roll(len(s.j.Next))
		for name, more := range map[string]api.Jaw{
			"next":  {Next: added(s.j.Next, at, n), Filed: s.j.Filed},
			"filed": {Next: s.j.Next, Filed: added(s.j.Filed, at, n)},
		} {
			if tooth.Check(more) != api.OK {
				continue // too many, or filed to look like itself
			}
			for filings := range api.ToothLooks + 1 {
				a, b := orVoid[[]int](t)(tooth.Ages(s.j, s.looks, filings)), orVoid[[]int](t)(tooth.Ages(more, s.looks, filings))
				if !within(a, b) {
					t.Errorf("sample %d: the ages %v, with one %s mouth more %v", i, a, name, b)
				}
				if len(b) > len(a) {
					found[name]++
				}
			}
		}
	}
	found.need(t, "next", "filed")
}

// renumbered returns the jaw and the looks with the number to[m] for each mouth m.
func renumbered(j api.Jaw, l looks, to []int) (api.Jaw, looks) {
	other := api.Jaw{Next: make(rows, len(to)), Filed: make(rows, len(to))}
	rename := func(list []int) []int {
		var names []int
		for _, m := range list {
			names = append(names, to[m])
		}
		return ordered(names)
	}
	for m, n := range to {
		other.Next[n], other.Filed[n] = rename(j.Next[m]), rename(j.Filed[m])
	}
	names := slices.Clone(l)
	for i := range names {
		names[i].Seen = to[l[i].Seen]
	}
	return other, names
}

func TestRenumbered(t *testing.T) { // P2.20
	d := dice(20)
	for i, s := range samples(400) {
		to := numbers(0, len(s.j.Next)-1)
		for n := len(to) - 1; n > 1; n-- {
			m := 1 + d.roll(n)
			to[n], to[m] = to[m], to[n]
		}
		j, l := renumbered(s.j, s.looks, to)
		if a, b := sameWhenRenumbered(s.j, s.looks), sameWhenRenumbered(j, l); !slices.Equal(a, b) {
			t.Errorf("sample %d: %v, with the numbers %v %v", i, a, to, b)
		}
	}
}

// sameWhenRenumbered returns all that does not say which mouth it is about.
func sameWhenRenumbered(j api.Jaw, l looks) []int {
	var all []int
	add := func(e api.Errno, numbers ...int) {
		all = append(all, int(e), len(numbers))
		all = append(all, numbers...)
	}
	n, e := tooth.Filings(j, l)
	add(e, n)
	n, e = tooth.Count(j, l)
	add(e, n)
	r, e := tooth.Age(j, l)
	add(e, r.From, r.To)
	for filings := range api.ToothLooks + 1 {
		list, e := tooth.Ages(j, l, filings)
		add(e, list...)
	}
	for i := range l {
		n, e = tooth.Verdict(j, l, i)
		add(e, n)
	}
	for age := range api.ToothAge + 1 {
		n, e = tooth.Cheat(j, age)
		add(e, n)
	}
	return all
}

// smallFair returns a fair in which many entries are of one horse in all ways, since there are few horses at most.
func smallFair(d *dice) api.Fair {
	f := api.Fair{Roads: rows{{0, 2}, {2, 0}}, Shoe: api.Range{From: 0, To: 1}, Dye: 2, Most: 1 + d.roll(3)}
	for range 2 + d.roll(api.MaxEntries-1) {
		n := api.Entry{Hour: d.roll(api.MaxHour + 1), Place: d.roll(2), Coat: d.roll(2), Height: 14 + d.roll(2), Shod: d.roll(3)}
		f.Entries = append(f.Entries, n)
	}
	return f
}

// TestLooked takes the first way with the fewest horses to be what is so, a day to be some years, and looks honestly into each mouth.
func TestLooked(t *testing.T) { // T1
	found := met{}
	d := dice(1)
	for i := range 300 {
		f, j := smallFair(&d), d.jaw()
		way, horses, e := mark.Fewest(f)
		if e != api.OK {
			continue
		}
		courses := make(rows, horses)
		for h := range courses {
			_, courses[h] = d.course(j, api.ToothYear)
		}
		looked := make([]looks, len(f.Entries))
		for n, x := range f.Entries {
			year := x.Hour * api.ToothYear / api.MaxHour
			looked[n] = seen(year, courses[way[n]][year])
		}
		groups := must[[]int](t)(mark.Groups(f))
		for x := range groups {
			for y := range groups {
				alike := must[bool](t)(tooth.Alike(j, looked[x], looked[y]))
				if groups[x] == groups[y] && !alike {
					t.Errorf("fair %d: %d and %d are one horse, but not alike", i, x, y)
				}
				if !alike {
					found["not alike"]++
				}
			}
			oneHorse(t, i, j, groups, looked, x, found)
		}
	}
	found.need(t, "not alike", "one horse")
}

// oneHorse looks at all entries together that surely are one horse with x; there may be more of them than looks.
func oneHorse(t *testing.T, i int, j api.Jaw, groups []int, looked []looks, x int, found met) {
	var lists []looks
	for y, g := range groups {
		if g == groups[x] && len(lists) < api.ToothLooks {
			lists = append(lists, looked[y])
		}
	}
	all := together(lists...)
	if n := must[int](t)(tooth.Filings(j, all)); n != 0 {
		t.Errorf("fair %d: %d filings of the looks %v", i, n, all)
	}
	if len(lists) > 2 {
		found["one horse"]++
	}
}
