package vouch_test

import (
	"slices"
	"testing"

	"palfrey/api"
	"palfrey/chain"
	"palfrey/vouch"
)

// must returns what a call has returned, and makes an error of it that it should not have returned.
func must[T any](t *testing.T) func(v T, e api.Errno) T {
	return func(v T, e api.Errno) T {
		t.Helper()
		if e != api.OK {
			t.Errorf("%v", e)
		}
		return v
	}
}

// met makes sure that a test has met each of the cases that it is about.
type met map[string]int

func (m met) need(t *testing.T, cases ...string) {
	t.Helper()
	for _, c := range cases {
		if m[c] == 0 {
			t.Errorf("no sample was about: %s", c)
		}
	}
}

func nameOf(verdict int) string { return []string{"no verdict", "surely", "never", "maybe"}[verdict] }

// sampled returns samples of all sizes, and all small ones.
func sampled() []sample { return append(samples(800), small()...) }

// possible returns the samples of which some world can be.
func possible(list []sample) []sample {
	return slices.DeleteFunc(list, func(s sample) bool { return len(s.can) == 0 })
}

func TestWhatAllWorldsSay(t *testing.T) { // P6.8, P6.2 to P6.4 and P0: exact over all worlds that can be
	found := met{}
	for i, s := range sampled() {
		if n := must[int](t)(vouch.Count(s.v)); n != len(s.can) {
			t.Errorf("sample %d: Count of %v: %d, not %d", i, s.v, n, len(s.can))
		}
		if len(s.can) == 0 {
			found["no world"]++
			continue
		}
		best := modelBest(s.v, s.can)
		if r, want := must[api.Range](t)(vouch.Liars(s.v)), modelLiars(s.v, s.can); r != want {
			t.Errorf("sample %d: Liars of %v: %v, not %v", i, s.v, r, want)
		} else if r.From < r.To && r.From > 0 {
			found["more or fewer liars"]++
		}
		for p := range s.v.Persons {
			all, few := must[int](t)(vouch.Person(s.v, p, false)), must[int](t)(vouch.Person(s.v, p, true))
			if want := modelVerdict(s.can, isTrue(p)); all != want {
				t.Errorf("sample %d: Person of %v, %d: %d, not %d", i, s.v, p, all, want)
			}
			if want := modelVerdict(best, isTrue(p)); few != want {
				t.Errorf("sample %d: Person of %v, %d, in the best worlds: %d, not %d", i, s.v, p, few, want)
			}
			found["person: "+nameOf(all)+", in the best worlds "+nameOf(few)]++
		}
		for f := range s.v.Facts {
			all, few := must[int](t)(vouch.Fact(s.v, f, false)), must[int](t)(vouch.Fact(s.v, f, true))
			if want := modelVerdict(s.can, isSo(f)); all != want {
				t.Errorf("sample %d: Fact of %v, %d: %d, not %d", i, s.v, f, all, want)
			}
			if want := modelVerdict(best, isSo(f)); few != want {
				t.Errorf("sample %d: Fact of %v, %d, in the best worlds: %d, not %d", i, s.v, f, few, want)
			}
			found["fact: "+nameOf(all)+", in the best worlds "+nameOf(few)]++
		}
	}
	for _, of := range []string{"person: ", "fact: "} {
		found.need(t, of+"surely, in the best worlds surely", of+"never, in the best worlds never", of+"maybe, in the best worlds surely", of+"maybe, in the best worlds never", of+"maybe, in the best worlds maybe")
	}
	found.need(t, "no world", "more or fewer liars")
}

func TestFewest(t *testing.T) { // P6.9, and P6.2
	found := met{}
	for i, s := range possible(sampled()) {
		w := must[api.World](t)(vouch.Fewest(s.v))
		if l := must[[]int](t)(vouch.Wrong(s.v, w)); len(l) > 0 {
			t.Errorf("sample %d: Fewest of %v: %v, which %v hinder", i, s.v, w, l)
		}
		if r := must[api.Range](t)(vouch.Liars(s.v)); modelFalse(s.v, w) != r.From {
			t.Errorf("sample %d: Fewest of %v: %v, and Liars %v", i, s.v, w, r)
		}
		for _, o := range s.can {
			if sameWorld(o, w) {
				found["itself"]++
				continue
			}
			if modelCompare(s.v, o, w) < 0 {
				t.Errorf("sample %d: Fewest of %v: %v, after %v", i, s.v, w, o)
			}
			switch {
			case len(o.True) != len(w.True):
			case slices.Equal(o.True, w.True):
				found["another one with the same false persons"]++
			case slices.Compare(o.True, w.True) < 0:
				found["another one with lesser true persons"]++
			default:
				found["another one with as many false persons"]++
			}
		}
	}
	found.need(t, "itself", "another one with the same false persons", "another one with lesser true persons")
}

// mute returns the vouchers without the words of the person.
func mute(v api.Vouch, person int) api.Vouch {
	v.Words = slices.DeleteFunc(slices.Clone(v.Words), func(w api.Word) bool { return w.By == person })
	return v
}

func speaks(v api.Vouch, person int) bool {
	return slices.ContainsFunc(v.Words, func(w api.Word) bool { return w.By == person })
}

func TestWhoSaysNothing(t *testing.T) { // P6.10
	d := dice(610)
	found := met{}
	for _, s := range sampled() {
		p := d.roll(s.v.Persons)
		v := mute(s.v, p)
		n, e := vouch.Person(v, p, false)
		m, f := vouch.Person(v, p, true)
		if e != f || e == api.OK && (n != api.Surely || m != api.Surely) || e != api.OK && e != api.ErrVoid {
			t.Errorf("Person of %v, %d: %d %v, and in the best worlds %d %v", v, p, n, e, m, f)
		}
		found[e.Error()]++
		if e == api.OK && s.v.Persons > 2 && len(v.Words) > 3 && len(v.Words) < len(s.v.Words) {
			found["it said something, and many others do"]++
		}
	}
	found.need(t, api.OK.Error(), api.ErrVoid.Error(), "it said something, and many others do")
}

func TestWordsOfWhoIsSurelyTrue(t *testing.T) { // P6.11
	found := met{}
	for i, s := range possible(sampled()) {
		for p := range s.v.Persons {
			surely := must[int](t)(vouch.Person(s.v, p, false)) == api.Surely
			follow := true
			for _, w := range s.v.Words {
				if w.By == p && must[int](t)(vouch.Follows(s.v, w)) != api.Surely {
					follow = false
				}
			}
			if surely != follow {
				t.Errorf("sample %d: the person %d of %v is surely true: %v; all its words follow: %v", i, p, s.v, surely, follow)
			}
			switch {
			case !surely:
				found["not surely"]++
			case speaks(s.v, p):
				found["surely, and it says something"]++
			default:
				found["surely, and it says nothing"]++
			}
		}
	}
	found.need(t, "not surely", "surely, and it says something", "surely, and it says nothing")
}

// only returns the vouchers in which the person says just the one word, in its place among those of the others.
func only(d *dice, v api.Vouch, w api.Word) api.Vouch {
	v = mute(v, w.By)
	v.Words = slices.Insert(v.Words, d.roll(len(v.Words)+1), w)
	return v
}

func TestAccused(t *testing.T) { // P6.12
	d := dice(612)
	found := met{}
	for _, s := range sampled() {
		if s.v.Persons == 1 {
			continue
		}
		a := d.roll(s.v.Persons)
		b := (a + 1 + d.roll(s.v.Persons-1)) % s.v.Persons
		w := api.Word{By: a, Kind: api.SaysFalse, A: b}
		v := s.v
		if len(mute(v, a).Words) == api.VouchWords {
			continue
		}
		v = only(&d, v, w)
		for _, o := range modelWorlds(v) {
			if len(must[[]int](t)(vouch.Wrong(v, o))) == 0 && isTrue(a)(o) == isTrue(b)(o) {
				t.Errorf("the world %v of %v can be, though %d says just that %d is false", o, v, a, b)
			}
		}
		n, e := vouch.Follows(v, api.Word{Kind: api.SaysSame, A: min(a, b), B: max(a, b)})
		if e == api.OK && n != api.Never || e != api.OK && e != api.ErrVoid {
			t.Errorf("Follows of %v: %d %v, though %d says just that %d is false", v, n, e, a, b)
		}
		if e == api.OK {
			found["the accuser is true: "+nameOf(must[int](t)(vouch.Person(v, a, false)))]++
		}
		found[e.Error()]++
	}
	found.need(t, api.OK.Error(), api.ErrVoid.Error(), "the accuser is true: surely", "the accuser is true: never", "the accuser is true: maybe")
}

func TestOfItself(t *testing.T) { // P6.13
	d := dice(613)
	found := met{}
	for _, s := range sampled() {
		p := d.roll(s.v.Persons)
		w := api.Word{By: p, Kind: api.SaysFalse, A: p}
		if len(s.v.Words) < api.VouchWords {
			v := s.v
			v.Words = slices.Insert(slices.Clone(v.Words), d.roll(len(v.Words)+1), w)
			if n, e := vouch.Person(v, p, false); e == api.OK && n != api.Never || e != api.OK && e != api.ErrVoid {
				t.Errorf("Person of %v, %d: %d %v", v, p, n, e)
			} else {
				found[e.Error()]++
			}
			if o, e := vouch.If(v, p); e != api.ErrVoid {
				t.Errorf("If of %v, %d: %v %v", v, p, o, e)
			}
		}
		if v := only(&d, s.v, w); len(v.Words) <= api.VouchWords {
			if n := must[int](t)(vouch.Count(v)); n != 0 {
				t.Errorf("Count of %v: %d, though %d says just of itself to be false", v, n, p)
			}
			found[[]string{"alone", "others speak, too"}[min(1, len(v.Words)-1)]]++
		}
	}
	found.need(t, api.OK.Error(), api.ErrVoid.Error(), "alone", "others speak, too")
}

func TestTheFirstWorldWithAPerson(t *testing.T) { // P6.14, and P6.4
	found := met{}
	for i, s := range possible(sampled()) {
		for p := range s.v.Persons {
			w, e := vouch.If(s.v, p)
			with := modelWhere(s.can, isTrue(p))
			if len(with) == 0 {
				if e != api.ErrVoid {
					t.Errorf("sample %d: If of %v, %d: %v %v", i, s.v, p, w, e)
				}
				found["none"]++
				continue
			}
			if e != api.OK || !isTrue(p)(w) || len(must[[]int](t)(vouch.Wrong(s.v, w))) > 0 {
				t.Errorf("sample %d: If of %v, %d: %v %v", i, s.v, p, w, e)
			}
			for _, o := range with {
				if modelCompare(s.v, o, w) < 0 {
					t.Errorf("sample %d: If of %v, %d: %v, after %v", i, s.v, p, w, o)
				}
			}
			found[[]string{"one", "the first one of several"}[min(1, len(with)-1)]]++
			if !sameWorld(w, s.can[0]) {
				found["not the first one of all"]++
			}
		}
	}
	found.need(t, "none", "one", "the first one of several", "not the first one of all")
}

func TestWithoutWords(t *testing.T) { // P6.15, and P6.5
	found := met{}
	impossible := slices.DeleteFunc(sampled(), func(s sample) bool { return len(s.can) > 0 })
	for i, s := range append(possible(samples(200)), impossible...) {
		l := must[[]int](t)(vouch.Silent(s.v))
		if want := modelSilent(s.v); !slices.Equal(l, want) {
			t.Errorf("sample %d: Silent of %v: %v, not %v", i, s.v, l, want)
		}
		for _, list := range lists(len(s.v.Words)) {
			n := must[int](t)(vouch.Count(without(s.v, list)))
			if slices.Equal(list, l) {
				if n == 0 {
					t.Errorf("sample %d: Silent of %v: %v, and no world can be without these words", i, s.v, l)
				}
				break
			}
			if n > 0 {
				t.Errorf("sample %d: Silent of %v: %v, though %d worlds can be without %v", i, s.v, l, n, list)
			}
		}
		found[[]string{"none", "one", "two", "more"}[min(3, len(l))]]++
		if len(l) == 1 && len(s.v.Words) > 1 && l[0] > 0 {
			found["a later one"]++
		}
	}
	found.need(t, "none", "one", "two", "a later one")
}

func TestWhomToAsk(t *testing.T) { // P6.16, and P6.6
	found := met{}
	for i, s := range possible(sampled()) {
		p, n, e := vouch.Ask(s.v)
		if person, worlds, due := modelAsk(s.v, s.can); p != person || n != worlds || e != due {
			t.Errorf("sample %d: Ask of %v: %d %d %v, not %d %d %v", i, s.v, p, n, e, person, worlds, due)
		}
		found[e.Error()]++
		if e != api.OK {
			continue
		}
		if n != modelLeft(s.can, p) || n >= len(s.can) {
			t.Errorf("sample %d: Ask of %v: %d %d, but %d of %d worlds remain", i, s.v, p, n, modelLeft(s.can, p), len(s.can))
		}
		for q := range s.v.Persons {
			if m := modelLeft(s.can, q); m < n || m == n && q < p {
				t.Errorf("sample %d: Ask of %v: %d %d, but %d is better", i, s.v, p, n, q)
			} else if m == n && q > p {
				found["the first one of several"]++
			} else if m > n && q < p && m < len(s.can) {
				found["a better one than the first one"]++
			}
		}
		found[[]string{"more are true", "fewer are true"}[min(1, len(s.can)-len(modelWhere(s.can, isTrue(p)))-len(s.can)+n)]]++
	}
	found.need(t, api.OK.Error(), api.ErrVoid.Error(), "the first one of several", "a better one than the first one", "more are true", "fewer are true")
}

func TestWhoProves(t *testing.T) { // P6.17, and P6.6
	found := met{}
	for i, s := range possible(sampled()) {
		for f := range s.v.Facts {
			l, e := vouch.Proof(s.v, f)
			if want, due := modelProof(s.v, s.can, f); e != due || !slices.Equal(l, want) {
				t.Errorf("sample %d: Proof of %v, %d: %v %v, not %v %v", i, s.v, f, l, e, want, due)
			}
			for _, list := range lists(s.v.Persons) {
				if e == api.OK && slices.Equal(list, l) {
					if !modelProves(s.can, list, f) {
						t.Errorf("sample %d: Proof of %v, %d: %v do not prove it", i, s.v, f, l)
					}
					break
				}
				if modelProves(s.can, list, f) {
					t.Errorf("sample %d: Proof of %v, %d: %v %v, but %v prove it", i, s.v, f, l, e, list)
				}
			}
			found[e.Error()]++
			if e == api.OK {
				found[[]string{"nobody", "one", "two", "more"}[min(3, len(l))]]++
			}
			if len(l) == 1 && l[0] > 0 {
				found["a later one"]++
			}
		}
	}
	found.need(t, api.OK.Error(), api.ErrVoid.Error(), "nobody", "one", "two", "a later one")
}

func TestOneWordMore(t *testing.T) { // P6.18
	d := dice(618)
	found := met{}
	for i, s := range possible(sampled()) {
		if len(s.v.Words) == api.VouchWords {
			continue
		}
		w := d.word(s.v.Persons, s.v.Facts)
		v, e := vouch.Add(s.v, w)
		if e == api.ErrFalse {
			v = then(s.v, w)
		}
		for _, o := range s.can {
			can := len(must[[]int](t)(vouch.Wrong(v, o))) == 0
			stays := !isTrue(w.By)(o) || modelIsSo(s.v, o, w)
			if can != stays {
				t.Errorf("sample %d: the world %v of %v, with %v more: %v, not %v", i, o, s.v, w, can, stays)
			}
			switch {
			case !isTrue(w.By)(o):
				found["the speaker was false"]++
			case stays:
				found["it is so"]++
			default:
				found["it is not so"]++
			}
		}
		found[e.Error()]++
		if n, e := vouch.Count(v); e == api.OK && n > len(s.can) {
			found["more worlds"]++
		}
	}
	found.need(t, api.OK.Error(), api.ErrFalse.Error(), "the speaker was false", "it is so", "it is not so", "more worlds")
}

// renumber is the new numbers of persons and of facts.
type renumber struct{ persons, facts []int }

func (r renumber) word(w api.Word) api.Word {
	w.By = r.persons[w.By]
	switch w.Kind {
	case api.SaysSo, api.SaysNot:
		w.A = r.facts[w.A]
	case api.SaysIf:
		w.A, w.B = r.facts[w.A], r.facts[w.B]
	case api.SaysFalse, api.SaysTrue:
		w.A = r.persons[w.A]
	case api.SaysSame:
		a, b := r.persons[w.A], r.persons[w.B]
		w.A, w.B = min(a, b), max(a, b)
	}
	return w
}

func (r renumber) vouch(v api.Vouch) api.Vouch {
	n := api.Vouch{Persons: v.Persons, Facts: v.Facts}
	for _, w := range v.Words {
		n.Words = append(n.Words, r.word(w))
	}
	return n
}

func TestRenumbered(t *testing.T) { // P6.19
	d := dice(619)
	found := met{}
	for i, s := range samples(500) {
		to := renumber{d.shuffled(s.v.Persons), d.shuffled(s.v.Facts)}
		r := to.vouch(s.v)
		if a, b := must[int](t)(vouch.Count(s.v)), must[int](t)(vouch.Count(r)); a != b {
			t.Errorf("sample %d: Count of %v: %d, of %v: %d", i, s.v, a, r, b)
		}
		if a, b := must[[]int](t)(vouch.Silent(s.v)), must[[]int](t)(vouch.Silent(r)); !slices.Equal(a, b) {
			t.Errorf("sample %d: Silent of %v: %v, of %v: %v", i, s.v, a, r, b)
		}
		if len(s.can) == 0 {
			found["no world"]++
			continue
		}
		same := func(call string, a, b int) {
			t.Helper()
			if a != b {
				t.Errorf("sample %d: %s of %v: %d, of %v: %d", i, call, s.v, a, r, b)
			}
		}
		if a, b := must[api.Range](t)(vouch.Liars(s.v)), must[api.Range](t)(vouch.Liars(r)); a != b {
			t.Errorf("sample %d: Liars of %v: %v, of %v: %v", i, s.v, a, r, b)
		}
		for _, best := range []bool{false, true} {
			for p, q := range to.persons {
				same("Person", must[int](t)(vouch.Person(s.v, p, best)), must[int](t)(vouch.Person(r, q, best)))
			}
			for f, g := range to.facts {
				same("Fact", must[int](t)(vouch.Fact(s.v, f, best)), must[int](t)(vouch.Fact(r, g, best)))
			}
		}
		for _, w := range words(s.v.Persons, s.v.Facts) {
			same("Follows", must[int](t)(vouch.Follows(s.v, w)), must[int](t)(vouch.Follows(r, to.word(w))))
		}
		a, b := must[api.World](t)(vouch.Fewest(s.v)), must[api.World](t)(vouch.Fewest(r))
		same("the number of false persons of Fewest", modelFalse(s.v, a), modelFalse(r, b))
		if !sameWorld(a, b) {
			found["another first world"]++
		}
	}
	found.need(t, "no world", "another first world")
}

// sold is a trade of which no deal is broken in the lot that was.
type sold struct {
	t   api.Trade
	lot []int
}

func (d *dice) day() sold {
	persons, horses := 2+d.roll(api.ChainPersons-1), 2+d.roll(api.ChainHorses-1)
	var s sold
	s.t.Persons = persons
	for range horses {
		s.t.Dawn = append(s.t.Dawn, d.roll(persons))
	}
	now := slices.Clone(s.t.Dawn)
	for range 1 + d.roll(api.ChainDeals) {
		horse := d.roll(horses)
		next := api.Deal{Seller: now[horse], Buyer: (now[horse] + 1 + d.roll(persons-1)) % persons}
		for h := range horses {
			if h == horse || d.roll(2) == 0 {
				next.Horses = append(next.Horses, h)
			}
		}
		now[horse] = next.Buyer
		s.t.Deals, s.lot = append(s.t.Deals, next), append(s.lot, horse)
	}
	return s
}

// claim is the fact that a deal was of a horse.
type claim struct{ deal, horse int }

// claims returns facts that are all different, each of a horse that the deal can be of.
func (d *dice) claims(t api.Trade) []claim {
	var list []claim
	for range 1 + d.roll(api.VouchFacts) {
		deal := d.roll(len(t.Deals))
		c := claim{deal, d.one(t.Deals[deal].Horses)}
		if !slices.Contains(list, c) {
			list = append(list, c)
		}
	}
	return list
}

// sworn returns vouchers of whom just those speak the truth who are true in the world.
func (d *dice) sworn(persons, facts int, w api.World) api.Vouch {
	v := api.Vouch{Persons: persons, Facts: facts}
	all := words(persons, facts)
	add := func(person int, so bool) {
		of := slices.DeleteFunc(slices.Clone(all), func(x api.Word) bool { return x.By != person || modelIsSo(v, w, x) != so })
		v.Words = append(v.Words, of[d.roll(len(of))])
	}
	for p := range persons {
		add(p, isTrue(p)(w))
	}
	for range d.roll(api.VouchWords - persons + 1) {
		p := d.roll(persons)
		add(p, isTrue(p)(w) || d.roll(2) == 0)
	}
	return v
}

// narrowed returns the trade in which deals are of the horses only that they surely were of, and not of those that they never were of.
func narrowed(t api.Trade, claims []claim, verdicts []int) api.Trade {
	t.Deals = slices.Clone(t.Deals)
	for i, c := range claims {
		of := &t.Deals[c.deal].Horses
		*of = slices.DeleteFunc(slices.Clone(*of), func(h int) bool {
			return verdicts[i] == api.Surely && h != c.horse || verdicts[i] == api.Never && h == c.horse
		})
	}
	return t
}

func TestSworn(t *testing.T) { // T14
	d := dice(14)
	found := met{}
	for i := range 1500 {
		day := d.day()
		claims := d.claims(day.t)
		var truth api.World
		for f, c := range claims {
			if day.lot[c.deal] == c.horse {
				truth.So = append(truth.So, f)
			}
		}
		persons := 1 + d.roll(api.VouchPersons)
		truth.True = lists(persons)[d.roll(1<<persons)]
		v := d.sworn(persons, len(claims), truth)
		if l := must[[]int](t)(vouch.Wrong(v, truth)); len(l) > 0 {
			t.Errorf("day %d: Wrong of %v, %v: %v", i, v, truth, l)
		}
		notImpossible := func(call string, verdict int, so bool) {
			t.Helper()
			if so && verdict == api.Never || !so && verdict == api.Surely {
				t.Errorf("day %d: %s of %v: %d, though it is so: %v", i, call, v, verdict, so)
			}
		}
		for p := range persons {
			notImpossible("Person", must[int](t)(vouch.Person(v, p, false)), isTrue(p)(truth))
		}
		for _, w := range words(persons, len(claims)) {
			notImpossible("Follows", must[int](t)(vouch.Follows(v, w)), modelIsSo(v, truth, w))
		}
		var verdicts []int
		for f := range claims {
			verdict := must[int](t)(vouch.Fact(v, f, false))
			notImpossible("Fact", verdict, isSo(f)(truth))
			verdicts = append(verdicts, verdict)
			found[nameOf(verdict)]++
		}
		known := narrowed(day.t, claims, verdicts)
		if l := must[[]int](t)(chain.Broken(known, day.lot)); len(l) > 0 {
			t.Errorf("day %d: Broken of %v, %v: %v", i, known, day.lot, l)
		}
		if _, broken, e := chain.Count(known); broken != 0 || e != api.OK {
			t.Errorf("day %d: Count of %v: %d broken deals, %v", i, known, broken, e)
		}
		for f, c := range claims {
			was := must[int](t)(chain.Of(day.t, c.deal, c.horse))
			if isSo(f)(truth) && was == api.Never {
				t.Errorf("day %d: Of of %v, %v: %d", i, day.t, c, was)
			}
			if verdicts[f] == api.MayBe {
				continue
			}
			if is := must[int](t)(chain.Of(known, c.deal, c.horse)); is != verdicts[f] {
				t.Errorf("day %d: Of of %v, %v: %d, not %d", i, known, c, is, verdicts[f])
			}
			if was == api.MayBe {
				found["it was in doubt, and is "+nameOf(verdicts[f])]++
			}
		}
	}
	found.need(t, "surely", "never", "maybe", "it was in doubt, and is surely", "it was in doubt, and is never")
}
