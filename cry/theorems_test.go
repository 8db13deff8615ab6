package cry_test

import (
	"slices"
	"testing"

	"palfrey/api"
	"palfrey/cry"
	"palfrey/mark"
)

// must returns what a call has returned, and makes an error of it that it should not have returned.
func must[T any](t *testing.T) func(v T, e api.Errno) T {
	return func(v T, e api.Errno) T {
		t.Helper()
		if e != api.OK {
			t.Errorf("%v", e)
		}
		return v
	}
}

// met makes sure that a test has met each of the cases that it is about.
type met map[string]int

func (m met) need(t *testing.T, cases ...string) {
	t.Helper()
	for _, c := range cases {
		if m[c] == 0 {
			t.Errorf("no sample was about: %s", c)
		}
	}
}

func nameOf(verdict int) string { return []string{"no verdict", "surely", "never", "maybe"}[verdict] }

func held(t *testing.T, w api.Watch, hour int) ints {
	t.Helper()
	return must[ints](t)(cry.Held(w, hour))
}

func why(t *testing.T, w api.Watch, hour, horse int) ints {
	t.Helper()
	return must[ints](t)(cry.Why(w, hour, horse))
}

// comes returns when the cry comes, or 73 if it never does.
func comes(t *testing.T, w api.Watch, n int) int {
	t.Helper()
	hour, e := cry.Arrival(w, n)
	if e == api.ErrVoid {
		return 73
	}
	return must[int](t)(hour, e)
}

func TestArrivalsOfAllSamples(t *testing.T) { // P7.1
	found := met{}
	for i, w := range watches(3000) {
		for n, c := range w.Cries {
			want, e := modelComes(w, c), api.OK
			if want > 72 {
				want, e = 0, api.ErrVoid
			}
			if hour, f := cry.Arrival(w, n); hour != want || f != e {
				t.Errorf("watch %d: the cry %d of %v comes at %d %v, not %d %v", i, n, w, hour, f, want, e)
			}
			towns, f := cry.Route(w, n)
			if !slices.Equal(towns, modelRoute(w, c)) || f != e {
				t.Errorf("watch %d: the cry %d of %v comes by way of %v %v, not %v %v", i, n, w, towns, f, modelRoute(w, c), e)
			}
			found[e.Error()+", "+[]string{"none", "one", "two", "three", "four"}[len(towns)]]++
			as := 0
			for _, l := range roads(w.Towns, c.Town) {
				if e == api.OK && modelRide(w, c, l) == want {
					as++
				}
			}
			found["others as soon"] += max(as-1, 0)
		}
	}
	found.need(t, "error 11, none", "error 0, one", "error 0, two", "error 0, three", "error 0, four", "others as soon")
}

func TestEarliest(t *testing.T) { // P7.7
	found := met{}
	for i, w := range watches(2000) {
		for n, c := range w.Cries {
			hour := comes(t, w, n)
			for _, l := range roads(w.Towns, c.Town) {
				at := modelRide(w, c, l)
				if at < hour {
					t.Errorf("watch %d: the cry %d of %v is at the fair at the hour %d along %v, not %d", i, n, w, at, l, hour)
				}
				if at > hour {
					found["later"]++
				}
			}
			if hour > 72 {
				continue
			}
			l := must[ints](t)(cry.Route(w, n))
			if modelRide(w, c, l) != hour || l[0] != c.Town || l[len(l)-1] != 0 {
				t.Errorf("watch %d: the cry %d of %v is at the fair at the hour %d along %v, not %d", i, n, w, modelRide(w, c, l), l, hour)
			}
			found["a route"]++
		}
	}
	found.need(t, "later", "a route")
}

func TestWhatIsKnownAndHeld(t *testing.T) { // P7.2, P7.8 and P0: exact over all ways
	found := met{}
	for i, s := range samples(350) {
		for _, hour := range s.about() {
			m := s.hours[hour]
			entries, cries, e := cry.Known(s.w, hour)
			if e != api.OK || !slices.Equal(entries, m.entries) || !slices.Equal(cries, m.cries) {
				t.Errorf("sample %d: %v: at %d it is known %v %v %v, not %v", i, s.w, hour, entries, cries, e, m)
			}
			list := held(t, s.w, hour)
			if !slices.Equal(list, m.held()) {
				t.Errorf("sample %d: %v: at %d are held %v, not %v", i, s.w, hour, list, m.held())
			}
			for horse := range s.w.Fair.Entries {
				l := why(t, s.w, hour, horse)
				if !slices.Equal(l, m.why(horse)) || len(l) > 0 != slices.Contains(list, horse) {
					t.Errorf("sample %d: %v: at %d, %d is held for %v, not %v, of %v", i, s.w, hour, horse, l, m.why(horse), list)
				}
				byItself(t, s, hour, horse, l)
				found[[]string{"for none", "for one", "for two", "for three"}[len(l)]]++
				for n := range s.w.Cries {
					found[nameOf(m.same[horse][n])]++
				}
			}
		}
	}
	found.need(t, "for none", "for one", "for two", "for three", "no verdict", "surely", "never", "maybe")
}

// byItself tests that each reason is a cry that has come, and with which the horse can be one horse by itself.
func byItself(t *testing.T, s sample, hour, horse int, cries ints) {
	t.Helper()
	for _, n := range cries {
		pair, e := mark.Can(wholeBook(s.w), ints{horse, len(s.w.Fair.Entries) + n})
		if !pair || e != api.OK || comes(t, s.w, n) > hour {
			t.Errorf("%v: at %d, %d is held for %d, which it cannot be: %v %v", s.w, hour, horse, n, pair, e)
		}
	}
}

func TestLetGo(t *testing.T) { // P7.9
	found := met{}
	for i, w := range append(watches(250), special()...) {
		s := sampleOf(w)
		for horse := range w.Fair.Entries {
			not := map[int]bool{}
			for _, hour := range s.about() {
				l := why(t, w, hour, horse)
				entries, cries, _ := cry.Known(w, hour)
				for _, n := range cries {
					if !slices.Contains(entries, horse) {
						continue
					}
					if not[n] && slices.Contains(l, n) {
						t.Errorf("watch %d: %v: %d was let go, and is held for %d at %d", i, w, horse, n, hour)
					}
					if !not[n] && !slices.Contains(l, n) {
						found["surely not the one"]++
					}
					if !not[n] && hour > max(w.Fair.Entries[horse].Hour, comes(t, w, n)) && !slices.Contains(l, n) {
						found["let go later"]++
					}
					not[n] = !slices.Contains(l, n)
				}
			}
		}
	}
	found.need(t, "surely not the one", "let go later")
}

func TestFoundAndVerdictOfAllSamples(t *testing.T) { // P7.4, P7.10, P7.15
	found := met{}
	for i, s := range samples(600) {
		for n := range s.w.Cries {
			hour, horse, e := cry.Found(s.w, n)
			a, b, f := s.found(n)
			if hour != a || horse != b || e != f {
				t.Errorf("sample %d: %v: the cry %d is found: %d %d %v, not %d %d %v", i, s.w, n, hour, horse, e, a, b, f)
			}
			verdict, e := cry.Verdict(s.w, n)
			due, g := s.verdict(n)
			if verdict != due || e != g {
				t.Errorf("sample %d: %v: the verdict of %d: %d %v, not %d %v", i, s.w, n, verdict, e, due, g)
			}
			if f == api.OK {
				stillIs(t, s, n, a, b)
				if verdict != api.Surely {
					t.Errorf("sample %d: %v: the cry %d is found, and its verdict is %d", i, s.w, n, verdict)
				}
			} else {
				found["not found, "+nameOf(verdict)]++
			}
			heldAtTheEnd := false
			for x := range s.w.Fair.Entries {
				heldAtTheEnd = heldAtTheEnd || slices.Contains(why(t, s.w, 72, x), n)
			}
			if e == api.OK && heldAtTheEnd == (verdict == api.Never) {
				t.Errorf("sample %d: %v: a horse is held for %d: %v, and its verdict is %d", i, s.w, n, heldAtTheEnd, verdict)
			}
			found[nameOf(verdict)]++
			alone, e := mark.Alone(wholeBook(s.w), len(s.w.Fair.Entries)+n)
			if e == api.OK && alone != api.MayBe && verdict == api.MayBe {
				found["never alone, but perhaps with another cry only"]++
			}
		}
	}
	found.need(t, "no verdict", "surely", "never", "maybe", "not found, surely", "not found, maybe", "never alone, but perhaps with another cry only")
}

// stillIs tests that the horse surely is the one of the cry from the hour on, whenever the cry comes after it, and that nothing that is later matters at this hour.
func stillIs(t *testing.T, s sample, n, hour, horse int) {
	t.Helper()
	for _, later := range s.about() {
		if later < hour {
			continue
		}
		if !slices.Contains(why(t, s.w, later, horse), n) {
			t.Errorf("%v: %d is the one of %d, and not held at %d", s.w, horse, n, later)
		}
		w := change(s.w, func(w *api.Watch) { w.Cries[n].Town, w.Cries[n].Hour = 0, later })
		if at, x, e := cry.Found(w, n); at != later || x > horse || e != api.OK {
			t.Errorf("%v: %d is the one of %d, and if it comes at %d: %d %d %v", s.w, horse, n, later, at, x, e)
		}
	}
	if at, x, e := cry.Found(until(s.w, hour), n); at != hour || x != horse || e != api.OK {
		t.Errorf("%v: %d is found at %d, but without what is later: %d %d %v", s.w, n, hour, at, x, e)
	}
}

// until returns the watch without the last entries if they are later than the hour, so that the others keep their numbers.
func until(w api.Watch, hour int) api.Watch {
	last := len(w.Fair.Entries)
	for last > 0 && w.Fair.Entries[last-1].Hour > hour {
		last--
	}
	return change(w, func(w *api.Watch) { w.Fair.Entries = w.Fair.Entries[:last] })
}

func TestSpansHoursAndSettledOfAllSamples(t *testing.T) { // P7.3, P7.5, P7.11, P7.12, P7.13
	found := met{}
	for i, s := range samples(700) {
		sum := 0
		for horse := range s.w.Fair.Entries {
			l := must[spans](t)(cry.Spans(s.w, horse))
			if !slices.Equal(l, s.spans(horse)) {
				t.Errorf("sample %d: %v: spans of %d: %v, not %v", i, s.w, horse, l, s.spans(horse))
			}
			for n, r := range l {
				sum += r.To - r.From + 1
				if r.From > r.To || n > 0 && l[n-1].To+1 >= r.From {
					t.Errorf("sample %d: %v: spans of %d touch: %v", i, s.w, horse, l)
				}
				if r.To < 72 {
					found["let go"]++
				}
			}
			found[[]string{"no span", "one span", "two spans", "three spans"}[len(l)]]++
		}
		if n := must[int](t)(cry.Hours(s.w)); n != s.held() || n != sum {
			t.Errorf("sample %d: %v: hours: %d, not %d, %d", i, s.w, n, s.held(), sum)
		}
		from := must[int](t)(cry.Settled(s.w))
		if from != s.settled() {
			t.Errorf("sample %d: %v: settled at %d, not %d", i, s.w, from, s.settled())
		}
		found["settled: "+[]string{"at once", "later"}[min(from, 1)]]++
	}
	found.need(t, "no span", "one span", "two spans", "let go", "settled: at once", "settled: later")
}

func TestEachHour(t *testing.T) { // P7.11, P7.13, P7.17
	for i, w := range append(watches(40), special()...) {
		var list []ints
		var entries, cries ints
		for hour := range 73 {
			list = append(list, held(t, w, hour))
			a, b, e := cry.Known(w, hour)
			if missing(entries, a) || missing(cries, b) || e != api.OK {
				t.Errorf("watch %d: %v: at %d it is known %v %v %v, and before %v %v", i, w, hour, a, b, e, entries, cries)
			}
			entries, cries = a, b
		}
		for horse := range w.Fair.Entries {
			l := must[spans](t)(cry.Spans(w, horse))
			for hour := range 73 {
				in := slices.ContainsFunc(l, func(r api.Range) bool { return r.From <= hour && hour <= r.To })
				if in != slices.Contains(list[hour], horse) {
					t.Errorf("watch %d: %v: at %d are held %v, and the spans of %d are %v", i, w, hour, list[hour], horse, l)
				}
			}
		}
		from := must[int](t)(cry.Settled(w))
		for hour := from; hour < 73; hour++ {
			if !slices.Equal(list[hour], list[72]) {
				t.Errorf("watch %d: %v: settled at %d, and at %d %v are held", i, w, from, hour, list[hour])
			}
		}
		if from > 0 && slices.Equal(list[from-1], list[72]) {
			t.Errorf("watch %d: %v: settled before %d", i, w, from)
		}
	}
}

// missing tells whether some number of the list is not in the other one.
func missing(list, from ints) bool {
	return slices.ContainsFunc(list, func(n int) bool { return !slices.Contains(from, n) })
}

func TestNeededOfAllSamples(t *testing.T) { // P7.6, P7.14
	found := met{}
	for i, s := range samples(700) {
		list := must[ints](t)(cry.Needed(s.w))
		if !slices.Equal(list, s.needed()) {
			t.Errorf("sample %d: %v: needed: %v, not %v", i, s.w, list, s.needed())
		}
		end := held(t, s.w, 72)
		for _, l := range lists(len(s.w.Cries)) {
			same := slices.Equal(held(t, onlyWith(s.w, l), 72), end)
			if slices.Equal(l, list) {
				if !same {
					t.Errorf("sample %d: %v: with %v alone others are held", i, s.w, l)
				}
				break
			}
			if same {
				t.Errorf("sample %d: %v: needed: %v, but %v is enough", i, s.w, list, l)
			}
			if len(l) > 0 && !same {
				found["a list before is not enough"]++
			}
			for _, horse := range held(t, onlyWith(s.w, l), 72) {
				if !slices.Contains(end, horse) {
					found["more would be held with fewer cries"]++
				}
			}
		}
		found[[]string{"none", "one", "two", "three"}[len(list)]]++
		if len(list) > 0 && list[0] > 0 {
			found["not the first one"]++
		}
	}
	found.need(t, "none", "one", "two", "three", "not the first one", "a list before is not enough", "more would be held with fewer cries")
}

func TestFaster(t *testing.T) { // P7.16
	d := dice(716)
	found := met{}
	for i, w := range watches(2500) {
		if w.Towns == 1 || len(w.Cries) == 0 {
			continue
		}
		more := change(w, func(w *api.Watch) {
			if len(w.Ways) < 6 && (len(w.Ways) == 0 || d.roll(3) == 0) {
				w.Ways = slices.Insert(w.Ways, d.roll(len(w.Ways)+1), d.ways(w.Towns, 1)...)
				return
			}
			x := &w.Ways[d.roll(len(w.Ways))]
			x.Hours -= d.roll(x.Hours)
			x.Open.From -= d.one(0, d.roll(x.Open.From+1))
			x.Open.To += d.one(0, d.roll(73-x.Open.To))
		})
		for n := range w.Cries {
			before, after := comes(t, w, n), comes(t, more, n)
			if after > before {
				t.Errorf("watch %d: %v: the cry %d comes at %d, not at %d, with %v", i, w, n, after, before, more.Ways)
			}
			if after < before {
				found["sooner"]++
			}
			if after < before && before > 72 {
				found["it would never come"]++
			}
		}
	}
	found.need(t, "sooner", "it would never come")
}

func TestKnownLater(t *testing.T) { // P7.17
	found := met{}
	for i, s := range samples(200) {
		var entries, cries ints
		for _, hour := range s.about() {
			a, b, e := cry.Known(s.w, hour)
			if e != api.OK || missing(entries, a) || missing(cries, b) {
				t.Errorf("sample %d: %v: at %d it is known %v %v %v, and before %v %v", i, s.w, hour, a, b, e, entries, cries)
			}
			if len(a) > len(entries) && len(b) > len(cries) {
				found["both at once"]++
			}
			entries, cries = a, b
		}
	}
	found.need(t, "both at once")
}

func TestAloneThereIsJustThePair(t *testing.T) { // P7.18
	found := met{}
	for i, w := range watches(250) {
		w := change(w, func(w *api.Watch) { w.Fair.Most = 6 })
		for _, hour := range sampleOf(w).about() {
			for horse, x := range w.Fair.Entries {
				var due ints
				for n := range w.Cries {
					pair, e := mark.Reason(wholeBook(w), horse, len(w.Fair.Entries)+n)
					if e == api.OK && pair == 0 && x.Hour <= hour && comes(t, w, n) <= hour {
						due = append(due, n)
					}
				}
				if l := why(t, w, hour, horse); !slices.Equal(l, due) {
					t.Errorf("watch %d: %v: at %d, %d is held for %v, not %v", i, w, hour, horse, l, due)
				}
				found[[]string{"for none", "for one", "for two", "for three"}[len(due)]]++
			}
		}
	}
	found.need(t, "for none", "for one", "for two", "for three")
	// Entries and cries together are enough: there need not be any more.
	w := plain(3, []api.Entry{entry(5, 0, 1, 15, 0), entry(6, 0, 1, 15, 0)}, lose(entry(1, 0, 1, 15, 0), 0, 1))
	if l, m := why(t, w, 72, 0), why(t, w, 72, 1); !slices.Equal(l, ints{0}) || !slices.Equal(m, ints{0}) {
		t.Errorf("%v %v", l, m)
	}
}

// later returns the watch with all hours later by as much.
func later(w api.Watch, by int) api.Watch {
	return change(w, func(w *api.Watch) {
		for i := range w.Fair.Entries {
			w.Fair.Entries[i].Hour += by
		}
		for i := range w.Cries {
			w.Cries[i].Hour += by
			w.Cries[i].Lost.Hour += by
		}
		for i := range w.Ways {
			w.Ways[i].Open.From += by
			w.Ways[i].Open.To += by
		}
	})
}

// latest returns the greatest hour of the watch.
func latest(w api.Watch) int {
	hour := 0
	for _, x := range w.Fair.Entries {
		hour = max(hour, x.Hour)
	}
	for _, x := range w.Cries {
		hour = max(hour, x.Hour)
	}
	for _, x := range w.Ways {
		hour = max(hour, x.Open.To)
	}
	return hour
}

func TestLater(t *testing.T) { // P7.19
	d := dice(719)
	found := met{}
	for i, w := range watches(900) {
		if latest(w) >= 72 {
			continue
		}
		by := 1 + d.roll(72-latest(w))
		moved := later(w, by)
		for n := range w.Cries {
			if a, b := comes(t, w, n), comes(t, moved, n); b != min(73, a+by) {
				t.Errorf("watch %d: %v: %d hours later the cry %d comes at %d, and before at %d", i, w, by, n, b, a)
			}
		}
		for _, hour := range sampleOf(moved).about() {
			var due ints
			if hour >= by {
				due = held(t, w, hour-by)
			}
			if l := held(t, moved, hour); !slices.Equal(l, due) {
				t.Errorf("watch %d: %v: %d hours later, at %d are held %v, not %v", i, w, by, hour, l, due)
			}
			found[[]string{"none are held", "one is held", "many are held"}[min(len(due), 2)]]++
		}
	}
	found.need(t, "none are held", "one is held", "many are held")
}

func TestWaysInAnotherOrder(t *testing.T) { // P7.20
	d := dice(720)
	found := met{}
	for i, w := range watches(250) {
		turned := change(w, func(x *api.Watch) {
			for i, n := range d.shuffled(len(w.Ways)) {
				x.Ways[i] = w.Ways[n]
				if d.roll(2) == 0 {
					x.Ways[i].A, x.Ways[i].B = x.Ways[i].B, x.Ways[i].A
				}
			}
		})
		hours := sampleOf(w).about()
		for n := range 3 {
			q := question{hour: hours[d.roll(len(hours))], horse: n, cry: n}
			a, b := calls(w, q), calls(turned, q)
			// Add is the last one, and returns the ways as they are.
			if !slices.EqualFunc(a[:len(a)-1], b[:len(b)-1], result.same) {
				t.Errorf("watch %d: %v: %v, not %v, with %v", i, w, b, a, turned.Ways)
			}
		}
		for n, c := range w.Cries {
			if c.Town != 0 && comes(t, w, n) <= 72 && !slices.Equal(w.Ways, turned.Ways) {
				found["other ways to the fair"]++
			}
		}
	}
	found.need(t, "other ways to the fair")
}

func TestTrue(t *testing.T) { // P7.21
	found := met{}
	for i, s := range samples(250) {
		ways := modelWays(wholeBook(s.w))
		for horse, x := range s.w.Fair.Entries {
			for n := range s.w.Cries {
				lost := len(s.w.Fair.Entries) + n
				if !slices.ContainsFunc(ways, func(l []int) bool { return l[horse] == l[lost] }) {
					found["no truth has it"]++
					continue
				}
				for _, hour := range s.about() {
					if hour < max(x.Hour, comes(t, s.w, n)) {
						continue
					}
					if !slices.Contains(held(t, s.w, hour), horse) || !slices.Contains(why(t, s.w, hour, horse), n) {
						t.Errorf("sample %d: %v: %d can be the one of %d, and is not held for it at %d", i, s.w, horse, n, hour)
					}
					found["held"]++
				}
			}
		}
	}
	found.need(t, "no truth has it", "held")
}

func TestFoundHorsesAreHeld(t *testing.T) { // T4
	found := met{}
	for i, s := range samples(700) {
		for n := range s.w.Cries {
			at, horse, e := cry.Found(s.w, n)
			if e != api.OK {
				found["not found"]++
				continue
			}
			for _, hour := range s.about() {
				if hour < at {
					continue
				}
				entries, cries, _ := cry.Known(s.w, hour)
				fair := withEntries(s.w.Fair, keep(s.w.Fair.Entries, entries))
				book := withEntries(fair, fair.Entries, lostOf(keep(s.w.Cries, cries)...))
				for x, entry := range entries {
					for name, f := range map[string]api.Fair{"the fair": fair, "the book": book} {
						verdict := must[int](t)(mark.Same(f, x, slices.Index(entries, horse)))
						held := slices.Contains(why(t, s.w, hour, entry), n)
						if verdict == api.Surely && !held || verdict == api.Never && held {
							t.Errorf("sample %d: %v: %d is found for %d; by %s, at %d, %d is it: %d, and held: %v", i, s.w, horse, n, name, hour, entry, verdict, held)
						}
						if entry != horse {
							found[name+" "+nameOf(verdict)]++
						}
					}
				}
			}
		}
	}
	found.need(t, "not found", "the fair surely", "the fair never", "the fair maybe", "the book surely", "the book never", "the book maybe")
}
