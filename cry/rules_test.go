package cry_test

import (
	"math"
	"reflect"
	"slices"
	"sync"
	"testing"
	"time"

	"palfrey/api"
	"palfrey/cry"
)

// result is all that a call has returned, in one form, so that results can be compared.
type result struct {
	call  string
	lists [][]int
	watch api.Watch
	e     api.Errno
}

func (r result) zero() bool {
	for _, l := range r.lists {
		if slices.ContainsFunc(l, func(n int) bool { return n != 0 }) {
			return false
		}
	}
	return sameWatch(r.watch, api.Watch{})
}

func (r result) same(q result) bool {
	return r.call == q.call && r.e == q.e && slices.EqualFunc(r.lists, q.lists, slices.Equal) && sameWatch(r.watch, q.watch)
}

// question is all that can be asked beside a watch.
type question struct {
	hour, horse, cry int
	add              api.Cry
}

// calls calls each function once; Add is the last one.
func calls(w api.Watch, q question) []result {
	all := []result{{call: "Check", e: cry.Check(w)}}
	add := func(call string, e api.Errno, lists ...[]int) {
		all = append(all, result{call: call, lists: lists, e: e})
	}
	n, e := cry.Arrival(w, q.cry)
	add("Arrival", e, ints{n})
	l, e := cry.Route(w, q.cry)
	add("Route", e, l)
	l, m, e := cry.Known(w, q.hour)
	add("Known", e, l, m)
	l, e = cry.Held(w, q.hour)
	add("Held", e, l)
	l, e = cry.Why(w, q.hour, q.horse)
	add("Why", e, l)
	r, e := cry.Spans(w, q.horse)
	var ends ints
	for _, r := range r {
		ends = append(ends, r.From, r.To)
	}
	add("Spans", e, ends)
	n, x, e := cry.Found(w, q.cry)
	add("Found", e, ints{n, x})
	n, e = cry.Verdict(w, q.cry)
	add("Verdict", e, ints{n})
	n, e = cry.Hours(w)
	add("Hours", e, ints{n})
	n, e = cry.Settled(w)
	add("Settled", e, ints{n})
	l, e = cry.Needed(w)
	add("Needed", e, l)
	more, e := cry.Add(w, q.add)
	return append(all, result{call: "Add", watch: more, e: e})
}

// errorsOf returns the error of each call by its name.
func errorsOf(t *testing.T, w api.Watch, q question) map[string]api.Errno {
	t.Helper()
	all := map[string]api.Errno{}
	for _, r := range calls(w, q) {
		all[r.call] = r.e
		if r.e != api.OK && !r.zero() {
			t.Errorf("%s of %v, %v: %v", r.call, w, q, r)
		}
	}
	return all
}

func expect(t *testing.T, name string, got map[string]api.Errno, want api.Errno, of ...string) {
	t.Helper()
	for _, call := range of {
		if got[call] != want {
			t.Errorf("%s: %s returns %v, not %v", name, call, got[call], want)
		}
	}
}

func TestErrorsComeAloneAndInOrder(t *testing.T) { // R1, R3, P7.1
	alone, cries := []string{"Check", "Hours", "Settled", "Needed"}, []string{"Arrival", "Route", "Found", "Verdict"}
	hours, horses := []string{"Known", "Held"}, []string{"Spans"}
	wrong := question{hour: 73, horse: 9, cry: 9, add: lose(entry(9, 9, 9, 9, 9), 9, 9)}
	for _, x := range badWatches() {
		expect(t, x.name, errorsOf(t, x.w, wrong), x.want, slices.Concat(alone, cries, hours, horses, []string{"Why", "Add"})...)
	}
	for _, x := range []struct {
		q                                  question
		ofHours, ofHorses, ofCries, ofBoth api.Errno
	}{
		{wrong, api.ErrFigure, api.ErrNobody, api.ErrNobody, api.ErrFigure},
		{question{hour: -1, horse: -1, cry: -1}, api.ErrFigure, api.ErrNobody, api.ErrNobody, api.ErrFigure},
		{question{hour: 73, horse: 3, cry: 0}, api.ErrFigure, api.OK, api.OK, api.ErrFigure},
		{question{hour: 72, horse: 4, cry: 1}, api.OK, api.ErrNobody, api.ErrNobody, api.ErrNobody},
		{question{hour: 0, horse: 3, cry: 0}, api.OK, api.OK, api.OK, api.OK},
		{question{hour: math.MaxInt, horse: math.MinInt, cry: math.MaxInt}, api.ErrFigure, api.ErrNobody, api.ErrNobody, api.ErrFigure},
	} {
		got := errorsOf(t, exampleS(), x.q)
		expect(t, "S", got, api.OK, alone...)
		expect(t, "S", got, x.ofHours, hours...)
		expect(t, "S", got, x.ofHorses, horses...)
		expect(t, "S", got, x.ofCries, cries...)
		expect(t, "S", got, x.ofBoth, "Why")
	}
	expect(t, "S", errorsOf(t, exampleS(), wrong), api.ErrNobody, "Add")
	got := errorsOf(t, plain(1, nil), question{})
	expect(t, "nothing but a town", got, api.ErrNobody, append(cries, "Spans", "Why")...)
	expect(t, "nothing but a town", got, api.OK, slices.Concat(alone, hours, []string{"Add"})...)
	got = errorsOf(t, ride(1, 0), question{})
	expect(t, "a cry that never comes", got, api.ErrVoid, cries...)
	got = errorsOf(t, ride(1, 0), question{cry: 1})
	expect(t, "a cry that never comes", got, api.ErrNobody, cries...)
	expect(t, "as many entries and cries as there can be", errorsOf(t, again(20), wrong), api.ErrNobody, "Add")
	got = errorsOf(t, plain(1, nil, slices.Repeat([]api.Cry{lose(entry(0, 0, 0, 0, 0), 0, 0)}, 3)...), wrong)
	expect(t, "as many cries as there can be", got, api.ErrOver, "Add")
}

// asked is all that can be asked of the sample with its numbers.
func asked(w api.Watch) []result {
	var all []result
	for n := range 3 {
		all = append(all, calls(w, question{hour: 20 * n, horse: n, cry: n, add: lose(entry(n, 0, 0, 15, api.Unsure, n), 0, 10*n)})...)
	}
	return all
}

func TestNothingIsKept(t *testing.T) { // R2, R6
	list := watches(60)
	before := make([][]result, len(list))
	for i, w := range list {
		before[i] = asked(w)
	}
	var wait sync.WaitGroup
	for i, w := range slices.Backward(list) {
		wait.Add(1)
		go func() {
			defer wait.Done()
			for range 3 {
				if again := asked(w); !reflect.DeepEqual(again, before[i]) {
					t.Errorf("watch %d: %v, then %v", i, before[i], again)
				}
			}
		}()
	}
	wait.Wait()
}

// roomy returns a copy of the list with elements behind its end that must stay as they are.
func roomy[T any](list []T, behind T) []T {
	long := make([]T, 0, len(list)+3)
	long = append(append(long, list...), behind, behind, behind)
	return long[:len(list)]
}

func wide[T any](list []T) []T { return list[:cap(list)] }

func roomyEntry(n api.Entry) api.Entry {
	n.Marks = roomy(n.Marks, -7)
	return n
}

// roomyWatch returns a copy of the watch in which all lists have room behind their ends.
func roomyWatch(w api.Watch) api.Watch {
	w.Fair.Roads = roomy(w.Fair.Roads, []int{-7})
	for i := range w.Fair.Roads {
		w.Fair.Roads[i] = roomy(w.Fair.Roads[i], -7)
	}
	w.Fair.Entries = roomy(w.Fair.Entries, entry(-7, -7, -7, -7, -7))
	for i := range w.Fair.Entries {
		w.Fair.Entries[i] = roomyEntry(w.Fair.Entries[i])
	}
	w.Ways = roomy(w.Ways, way(-7, -7, -7, -7, -7))
	w.Cries = roomy(w.Cries, lose(entry(-7, -7, -7, -7, -7), -7, -7))
	for i := range w.Cries {
		w.Cries[i].Lost = roomyEntry(w.Cries[i].Lost)
	}
	return w
}

// wideWatch returns the watch with all that is behind the ends of its lists.
func wideWatch(w api.Watch) api.Watch {
	w = copyWide(w)
	for i := range w.Fair.Entries {
		w.Fair.Entries[i].Marks = wide(w.Fair.Entries[i].Marks)
	}
	for i := range w.Cries {
		w.Cries[i].Lost.Marks = wide(w.Cries[i].Lost.Marks)
	}
	for i := range w.Fair.Roads {
		w.Fair.Roads[i] = wide(w.Fair.Roads[i])
	}
	return w
}

func copyWide(w api.Watch) api.Watch {
	w.Fair.Roads, w.Fair.Entries = slices.Clone(wide(w.Fair.Roads)), slices.Clone(wide(w.Fair.Entries))
	w.Ways, w.Cries = slices.Clone(wide(w.Ways)), slices.Clone(wide(w.Cries))
	return w
}

func TestNoArgumentIsChanged(t *testing.T) { // R4
	for i, w := range append(watches(100), special()...) {
		w = roomyWatch(w)
		c := lose(roomyEntry(entry(0, 0, 0, 15, api.Unsure, 1, 2)), 0, 9)
		before := roomyWatch(w)
		for n := range 3 {
			calls(w, question{hour: 36 * n, horse: n, cry: n, add: c})
		}
		if !sameWatch(wideWatch(w), wideWatch(before)) || !slices.Equal(wide(c.Lost.Marks), ints{1, 2, -7, -7, -7}) {
			t.Errorf("watch %d: an argument is changed", i)
		}
	}
}

func spoil(list []int) {
	list = wide(list)
	for i := range list {
		list[i] = -99
	}
}

func spoilWatch(w api.Watch) {
	for _, n := range wide(w.Fair.Entries) {
		spoil(n.Marks)
	}
	for _, c := range wide(w.Cries) {
		spoil(c.Lost.Marks)
	}
	for _, l := range wide(w.Fair.Roads) {
		spoil(l)
	}
	clear(wide(w.Fair.Roads))
	clear(wide(w.Fair.Entries))
	clear(wide(w.Ways))
	clear(wide(w.Cries))
}

func (r result) spoil() {
	for _, l := range r.lists {
		spoil(l)
	}
	spoilWatch(r.watch)
}

func TestNoMemoryIsShared(t *testing.T) { // R4
	for i, w := range append(watches(100), special()...) {
		w = roomyWatch(w)
		before := roomyWatch(w)
		c := lose(roomyEntry(entry(0, 0, 0, 15, api.Unsure, 1, 2)), 0, 9)
		q := question{hour: 72, add: c}
		all, want := calls(w, q), calls(w, q)
		for n := range all {
			all[n].spoil()
			if !slices.EqualFunc(all[n+1:], want[n+1:], result.same) {
				t.Errorf("watch %d: %s shares memory with another result", i, all[n].call)
			}
		}
		if !sameWatch(wideWatch(w), wideWatch(before)) || !slices.Equal(wide(c.Lost.Marks), ints{1, 2, -7, -7, -7}) {
			t.Errorf("watch %d: a result shares memory with an argument", i)
		}
		if again := calls(w, q); !slices.EqualFunc(again, want, result.same) {
			t.Errorf("watch %d: a call returns what was spoilt", i)
		}
	}
	entries, cries, _ := cry.Known(again(20), 72)
	spoil(entries)
	if !slices.Equal(cries, ints{0, 1}) {
		t.Errorf("the lists that are known share memory: %v", cries)
	}
	w, e := cry.Add(exampleS(), lose(entry(6, 0, 1, 15, api.Bare, 0), 1, 70))
	spoil(w.Cries[0].Lost.Marks)
	spoil(w.Fair.Entries[0].Marks)
	if e != api.OK || !slices.Equal(w.Cries[1].Lost.Marks, ints{0}) {
		t.Errorf("the lists of a watch share memory: %v %v", w, e)
	}
}

func TestNilIsEmpty(t *testing.T) { // R4
	for i, w := range append(watches(60), special()...) {
		turn := func(nothing func(list []int) []int) api.Watch {
			return change(w, func(w *api.Watch) {
				for i := range w.Fair.Entries {
					w.Fair.Entries[i].Marks = nothing(w.Fair.Entries[i].Marks)
				}
				for i := range w.Cries {
					w.Cries[i].Lost.Marks = nothing(w.Cries[i].Lost.Marks)
				}
			})
		}
		empty := turn(func(l []int) []int { return append(ints{}, l...) })
		none := turn(func(l []int) []int { return append(ints(nil), l...) })
		if len(w.Ways) == 0 {
			empty.Ways, none.Ways = []api.Way{}, nil
		}
		if len(w.Cries) == 0 {
			empty.Cries, none.Cries = []api.Cry{}, nil
		}
		if len(w.Fair.Entries) == 0 {
			empty.Fair.Entries, none.Fair.Entries = []api.Entry{}, nil
		}
		for hour := 0; hour <= 72; hour += 12 {
			q := question{hour: hour}
			if l, m := calls(none, q), calls(empty, q); !slices.EqualFunc(l, m, result.same) {
				t.Errorf("watch %d: %v, and if nil is empty %v", i, l, m)
			}
		}
	}
}

func TestAnyArgument(t *testing.T) { // P1, R5, and R1: the errors of any watch
	d := dice(7)
	odd := ints{math.MinInt, math.MaxInt, math.MinInt + 1, math.MaxInt - 72, -2, -1, 0, 0, 1, 1, 2, 3, 4, 5, 6, 7, 12, 13, 30, 31, 72, 73, 1 << 32}
	pick := func() int { return odd[d.roll(len(odd))] }
	anyEntry := func() api.Entry {
		n := entry(pick(), pick(), pick(), pick(), pick())
		for range d.roll(3) {
			n.Marks = append(n.Marks, pick())
		}
		return n
	}
	found := met{}
	for range 6000 {
		w := copyOf(d.watch(d.roll(4), d.roll(3)))
		c, another := lose(anyEntry(), pick(), pick()), d.cry(w, 72)
		if d.roll(2) == 0 {
			c = d.cry(w, 72)
		}
		for range d.roll(3) {
			spoilOne(&d, &w, pick, anyEntry, another)
		}
		q := question{hour: pick(), horse: pick(), cry: pick(), add: c}
		got := errorsOf(t, w, q)
		due := modelError(w)
		hour, horse, of, add := due, due, due, due
		if due == api.OK {
			hour, horse, of, add = modelNumberErrors(w, q)
		}
		both := hour
		if both == api.OK {
			both = horse
		}
		if got["Check"] != due || got["Held"] != hour || got["Known"] != hour || got["Spans"] != horse || got["Why"] != both || got["Add"] != add || of != api.OK && got["Arrival"] != of {
			t.Errorf("%v, %v: %v, not %v %v %v %v %v", w, q, got, due, hour, horse, of, add)
		}
		found["Check: "+due.Error()]++
		found["Add: "+got["Add"].Error()]++
		found["Why: "+got["Why"].Error()]++
	}
	for _, e := range []api.Errno{api.OK, api.ErrFigure, api.ErrNobody, api.ErrTurn, api.ErrOver, api.ErrUnder, api.ErrClass, api.ErrFalse} {
		found.need(t, "Check: "+e.Error(), "Add: "+e.Error())
	}
	found.need(t, "Why: "+api.OK.Error(), "Why: "+api.ErrFigure.Error(), "Why: "+api.ErrNobody.Error())
}

func modelNumberErrors(w api.Watch, q question) (hour, horse, of, add api.Errno) {
	if q.hour < 0 || q.hour > 72 {
		hour = api.ErrFigure
	}
	if q.horse < 0 || q.horse >= len(w.Fair.Entries) {
		horse = api.ErrNobody
	}
	if q.cry < 0 || q.cry >= len(w.Cries) {
		of = api.ErrNobody
	}
	more := w
	more.Cries = slices.Concat(w.Cries, []api.Cry{q.add})
	add = modelError(more)
	if len(w.Cries) == 3 {
		add = api.ErrOver
	}
	return hour, horse, of, add
}

// spoilOne changes something in the watch.
func spoilOne(d *dice, w *api.Watch, pick func() int, anyEntry func() api.Entry, another api.Cry) {
	switch d.roll(13) {
	case 0:
		w.Towns = pick()
	case 1:
		w.Ways = append(w.Ways, way(pick(), pick(), pick(), pick(), pick()))
	case 2:
		w.Ways = make([]api.Way, d.roll(9))
	case 3:
		w.Cries = append(w.Cries, lose(anyEntry(), pick(), pick()))
	case 4:
		w.Cries = append(w.Cries, another)
	case 5:
		w.Cries = make([]api.Cry, d.roll(6))
	case 6:
		w.Fair.Entries = append(w.Fair.Entries, anyEntry())
	case 7:
		w.Fair.Entries = make([]api.Entry, d.roll(9))
	case 8:
		w.Fair.Most, w.Fair.Dye = pick(), pick()
	case 9:
		w.Fair.Roads = append(w.Fair.Roads, ints{pick()})
	case 10:
		w.Fair.Shoe = api.Range{From: pick(), To: pick()}
	case 11:
		*w = api.Watch{Fair: w.Fair}
	case 12:
		w.Fair.Roads = w.Fair.Roads[:d.roll(len(w.Fair.Roads)+1)]
	}
}

func TestTheLargestWatches(t *testing.T) { // P1: it returns, and soon
	begin := time.Now()
	d := dice(77)
	for range 40 {
		w := d.watch(3, 3)
		w.Fair.Most = 6
		errorsOf(t, w, question{hour: 72, horse: 2, cry: 2})
	}
	w := plain(6, slices.Repeat([]api.Entry{entry(5, 0, 1, 15, api.Unsure)}, 3), slices.Repeat([]api.Cry{lose(entry(1, 0, 1, 15, api.Unsure), 3, 1)}, 3)...)
	w.Towns = 4
	for a := range 4 {
		for b := range a {
			w.Ways = append(w.Ways, way(a, b, 1+a*b, 0, 72))
		}
	}
	got := errorsOf(t, w, question{hour: 72, horse: 2, cry: 2})
	expect(t, "all alike", got, api.OK, "Check", "Arrival", "Route", "Known", "Held", "Why", "Spans", "Verdict", "Hours", "Settled", "Needed")
	expect(t, "all alike", got, api.ErrVoid, "Found")
	if spent := time.Since(begin); spent > 20*time.Second {
		t.Errorf("it takes %v", spent)
	}
}
