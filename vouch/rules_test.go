package vouch_test

import (
	"math"
	"reflect"
	"slices"
	"sync"
	"testing"
	"time"

	"palfrey/api"
	"palfrey/vouch"
)

// result is all that a call has returned, in one form, so that results can be compared.
type result struct {
	call    string
	numbers []int
	world   api.World
	vouch   api.Vouch
	e       api.Errno
}

func (r result) zero() bool {
	return !slices.ContainsFunc(r.numbers, func(n int) bool { return n != 0 }) && sameWorld(r.world, api.World{}) && sameVouch(r.vouch, api.Vouch{})
}

func (r result) same(q result) bool {
	return r.call == q.call && r.e == q.e && slices.Equal(r.numbers, q.numbers) && sameWorld(r.world, q.world) && sameVouch(r.vouch, q.vouch)
}

// question is all that can be asked beside vouchers.
type question struct {
	person, fact int
	best         bool
	word         api.Word
	world        api.World
}

// calls calls each function once.
func calls(v api.Vouch, q question) []result {
	all := []result{{call: "Check", e: vouch.Check(v)}, {call: "CheckWord", e: vouch.CheckWord(v, q.word)}}
	add := func(call string, list []int, e api.Errno) { all = append(all, result{call: call, numbers: list, e: e}) }
	one := func(call string, n int, e api.Errno) { add(call, ints{n}, e) }
	l, e := vouch.Wrong(v, q.world)
	add("Wrong", l, e)
	n, e := vouch.Count(v)
	one("Count", n, e)
	w, e := vouch.Fewest(v)
	all = append(all, result{call: "Fewest", world: w, e: e})
	r, e := vouch.Liars(v)
	add("Liars", ints{r.From, r.To}, e)
	n, e = vouch.Person(v, q.person, q.best)
	one("Person", n, e)
	n, e = vouch.Fact(v, q.fact, q.best)
	one("Fact", n, e)
	n, e = vouch.Follows(v, q.word)
	one("Follows", n, e)
	w, e = vouch.If(v, q.person)
	all = append(all, result{call: "If", world: w, e: e})
	l, e = vouch.Silent(v)
	add("Silent", l, e)
	p, n, e := vouch.Ask(v)
	add("Ask", ints{p, n}, e)
	l, e = vouch.Proof(v, q.fact)
	add("Proof", l, e)
	a, e := vouch.Add(v, q.word)
	return append(all, result{call: "Add", vouch: a, e: e})
}

// errorsOf returns the error of each call by its name.
func errorsOf(t *testing.T, v api.Vouch, q question) map[string]api.Errno {
	t.Helper()
	all := map[string]api.Errno{}
	for _, r := range calls(v, q) {
		all[r.call] = r.e
		if r.e != api.OK && !r.zero() {
			t.Errorf("%s of %v, %v: %v", r.call, v, q, r)
		}
	}
	return all
}

func expect(t *testing.T, name string, got map[string]api.Errno, want api.Errno, of ...string) {
	t.Helper()
	for _, call := range of {
		if got[call] != want {
			t.Errorf("%s: %s returns %v, not %v", name, call, got[call], want)
		}
	}
}

func TestErrorsComeAloneAndInOrder(t *testing.T) { // R1, R3, P6.1
	wrong := question{person: 9, fact: -1, word: api.Word{By: 9, Kind: 9}, world: world(ints{9}, nil)}
	alone, void := []string{"Check", "Count", "Silent"}, []string{"Fewest", "Liars", "Ask"}
	word, number := []string{"CheckWord", "Follows", "Add"}, []string{"Person", "Fact", "If", "Proof"}
	for _, x := range allBad() {
		expect(t, x.name, errorsOf(t, x.v, wrong), x.want, slices.Concat(alone, void, word, number, []string{"Wrong"})...)
	}
	got := errorsOf(t, exampleV(), wrong)
	expect(t, "V", got, api.OK, slices.Concat(alone, void)...)
	expect(t, "V", got, api.ErrNobody, slices.Concat(word, number, []string{"Wrong"})...)
	got = errorsOf(t, exampleP(), wrong)
	expect(t, "P", got, api.OK, alone...)
	expect(t, "P", got, api.ErrVoid, void...)
	expect(t, "P", got, api.ErrNobody, slices.Concat(word, number, []string{"Wrong"})...)
	got = errorsOf(t, exampleP(), question{word: api.Word{Kind: api.SaysTrue, B: 1}, world: world(ints{0, 0}, ints{9})})
	expect(t, "P", got, api.ErrVoid, "Person", "If")
	expect(t, "P", got, api.ErrNobody, "Fact", "Proof")
	expect(t, "P", got, api.ErrFigure, word...)
	expect(t, "P", got, api.ErrTurn, "Wrong")
	got = errorsOf(t, full(), question{person: -1, fact: 3, word: api.Word{Kind: -1}})
	expect(t, "full", got, api.ErrNobody, number...)
	expect(t, "full", got, api.ErrClass, "CheckWord", "Follows")
	expect(t, "full", got, api.ErrOver, "Add")
	got = errorsOf(t, vouchers(1, 1, 0, api.SaysFalse, 0, 0), question{word: api.Word{Kind: api.SaysSo}})
	expect(t, "void", got, api.OK, append(alone, "CheckWord", "Add", "Wrong")...)
	expect(t, "void", got, api.ErrVoid, slices.Concat(void, number, []string{"Follows"})...)
}

// asked is all that can be asked of the sample with its numbers.
func (s sample) asked() []result {
	var all []result
	for n := range max(s.v.Persons, s.v.Facts) {
		w := api.Word{By: min(n, s.v.Persons-1), Kind: api.SaysMany, A: n}
		all = append(all, calls(s.v, question{person: n, fact: n, best: n%2 == 0, word: w, world: world(ints{0}, nil)})...)
	}
	return all
}

func TestNothingIsKept(t *testing.T) { // R2, R6
	list := samples(120)
	before := make([][]result, len(list))
	for i, s := range list {
		before[i] = s.asked()
	}
	var wait sync.WaitGroup
	for i, s := range slices.Backward(list) {
		wait.Add(1)
		go func() {
			defer wait.Done()
			for range 3 {
				if again := s.asked(); !reflect.DeepEqual(again, before[i]) {
					t.Errorf("sample %d: %v, then %v", i, before[i], again)
				}
			}
		}()
	}
	wait.Wait()
}

// roomy returns a copy of the list with elements behind its end that must stay as they are.
func roomy[T any](list []T, behind T) []T {
	long := append(slices.Clone(list), behind, behind, behind)
	return long[:len(list)]
}

var behind = api.Word{By: -7, Kind: -7, A: -7, B: -7}

func sameBehind[T comparable](a, b []T) bool { return slices.Equal(a[:len(a)+3], b[:len(b)+3]) }

func TestNoArgumentIsChanged(t *testing.T) { // R4
	list := samples(150)
	for _, v := range []api.Vouch{exampleV(), exampleX(), exampleP(), exampleQ(), full(), vouchers(1, 0)} {
		list = append(list, sampleOf(v))
	}
	for i, s := range list {
		s.v.Words = roomy(s.v.Words, behind)
		before := roomy(s.v.Words, behind)
		persons, facts := roomy(below(s.v.Persons), -7), roomy(below(s.v.Facts), -7)
		s.asked()
		calls(s.v, question{world: world(persons, facts), word: api.Word{Kind: api.SaysTrue}})
		if !sameBehind(s.v.Words, before) || !sameBehind(persons, roomy(below(s.v.Persons), -7)) || !sameBehind(facts, roomy(below(s.v.Facts), -7)) {
			t.Errorf("sample %d: an argument is changed", i)
		}
	}
}

// below returns the numbers less than n.
func below(n int) []int { return others(n, nil) }

func spoil(list []int) {
	list = list[:cap(list)]
	for i := range list {
		list[i] = -99
	}
}

func (r result) spoil() {
	spoil(r.numbers)
	spoil(r.world.True)
	spoil(r.world.So)
	words := r.vouch.Words[:cap(r.vouch.Words)]
	for i := range words {
		words[i] = api.Word{By: -99, Kind: -99, A: -99, B: -99}
	}
}

func TestNoMemoryIsShared(t *testing.T) { // R4
	for i, s := range append(samples(200), sampleOf(exampleV()), sampleOf(vouchers(4, 3))) {
		s.v.Words = roomy(s.v.Words, behind)
		before := roomy(s.v.Words, behind)
		q := question{world: world(roomy(below(s.v.Persons), -7), roomy(below(s.v.Facts), -7)), word: api.Word{Kind: api.SaysTrue}}
		all, want := calls(s.v, q), calls(s.v, q)
		for n := range all {
			all[n].spoil()
			if !slices.EqualFunc(all[n+1:], want[n+1:], result.same) {
				t.Errorf("sample %d: %s shares memory with another result", i, all[n].call)
			}
		}
		if !sameBehind(s.v.Words, before) || !slices.Equal(q.world.True, below(s.v.Persons)) || !slices.Equal(q.world.So, below(s.v.Facts)) {
			t.Errorf("sample %d: a result shares memory with an argument", i)
		}
		if again := calls(s.v, q); !slices.EqualFunc(again, want, result.same) {
			t.Errorf("sample %d: a call returns what was spoilt", i)
		}
	}
	w := must[api.World](t)(vouch.Fewest(vouchers(4, 3, 0, api.SaysSo, 0, 0, 1, api.SaysSo, 1, 0)))
	spoil(w.True)
	if !slices.Equal(w.So, ints{0, 1}) {
		t.Errorf("the lists of a world share memory: %v", w)
	}
}

func TestNilIsEmpty(t *testing.T) { // R4
	for _, v := range []api.Vouch{vouchers(1, 0), vouchers(4, 3), vouchers(2, 1)} {
		w := api.Word{By: 0, Kind: api.SaysTrue}
		empty := v
		empty.Words = told{}
		l := calls(v, question{word: w})
		m := calls(empty, question{word: w, world: world(ints{}, ints{})})
		if !slices.EqualFunc(l, m, result.same) {
			t.Errorf("%v, and if nil is empty %v", l, m)
		}
	}
}

func TestAnyArgument(t *testing.T) { // P1, R5, and R1: the errors of any vouchers, words and worlds
	d := dice(6)
	odd := []int{math.MinInt, math.MaxInt, math.MinInt + 1, -2, -1, 0, 0, 1, 1, 2, 3, 4, 5, 6, 7, 8, 63, 64, 65, 1 << 32}
	pick := func() int { return d.one(odd) }
	any := func() api.Word { return api.Word{By: pick(), Kind: pick(), A: pick(), B: pick()} }
	list := func() []int {
		l := make(ints, d.roll(6))
		for i := range l {
			l[i] = pick()
		}
		return l
	}
	found := met{}
	for range 4000 {
		v := d.vouch(1+d.roll(4), d.roll(4), d.roll(9))
		for range d.roll(3) {
			switch d.roll(6) {
			case 0:
				v.Persons = pick()
			case 1:
				v.Facts = pick()
			case 2:
				v.Words = append(v.Words, any())
			case 3:
				v.Words = make([]api.Word, d.roll(11))
			case 4:
				v.Words = slices.Insert(v.Words, d.roll(len(v.Words)+1), any())
			case 5:
				v = api.Vouch{}
			}
		}
		q := question{person: pick(), fact: pick(), best: d.roll(2) == 0, word: any(), world: world(list(), list())}
		got := errorsOf(t, v, q)
		due, word, told := modelError(v), modelWordError(v, q.word), modelWorldError(v, q.world)
		if due != api.OK {
			word, told = due, due
		}
		if got["Check"] != due || got["CheckWord"] != word || got["Wrong"] != told {
			t.Errorf("%v, %v: %v, not %v, %v, %v", v, q, got, due, word, told)
		}
		found["Check: "+due.Error()]++
		found["Wrong: "+told.Error()]++
	}
	for _, e := range []api.Errno{api.OK, api.ErrFigure, api.ErrNobody, api.ErrOver, api.ErrClass} {
		found.need(t, "Check: "+e.Error())
	}
	found.need(t, "Wrong: "+api.OK.Error(), "Wrong: "+api.ErrNobody.Error(), "Wrong: "+api.ErrTurn.Error())
}

func TestTheLargestVouchers(t *testing.T) { // P1: it returns, and soon
	d := dice(8)
	begin := time.Now()
	for range 50 {
		errorsOf(t, d.vouch(api.VouchPersons, api.VouchFacts, api.VouchWords), question{world: world(nil, nil)})
	}
	most := api.Vouch{Persons: 4, Facts: 3, Words: slices.Repeat(say(0, api.SaysFalse, 0, 0), 8)}
	if l := must[[]int](t)(vouch.Silent(most)); len(l) != 8 {
		t.Errorf("Silent of %v: %v", most, l)
	}
	if l := must[[]int](t)(vouch.Wrong(most, world(below(4), below(3)))); !slices.Equal(l, ints{0}) {
		t.Errorf("Wrong of %v: %v", most, l)
	}
	got := errorsOf(t, full(), question{person: 3, fact: 2, word: api.Word{By: 3, Kind: api.SaysIf, A: 2, B: 1}, world: world(below(4), below(3))})
	expect(t, "full", got, api.OK, "Check", "CheckWord", "Wrong", "Count", "Silent")
	expect(t, "full", got, api.ErrOver, "Add")
	if spent := time.Since(begin); spent > 20*time.Second {
		t.Errorf("it takes %v", spent)
	}
}
