package chain_test

import (
	"math"
	"reflect"
	"slices"
	"sync"
	"testing"

	"palfrey/api"
	"palfrey/chain"
)

// result is all that a call has returned, in one form, so that results can be compared.
type result struct {
	call    string
	numbers []int
	rows    [][]int
	trade   api.Trade
	e       api.Errno
}

func (r result) zero() bool {
	return !slices.ContainsFunc(r.numbers, func(n int) bool { return n != 0 }) && len(r.rows) == 0 && sameTrade(r.trade, api.Trade{})
}

func (r result) same(q result) bool {
	return r.call == q.call && r.e == q.e && slices.Equal(r.numbers, q.numbers) && sameRows(r.rows, q.rows) && sameTrade(r.trade, q.trade)
}

// question is all that can be asked beside a trade.
type question struct {
	lot                 []int
	deal, horse, person int
	more                api.Deal
}

// calls calls each function once.
func calls(t api.Trade, q question) []result {
	var all []result
	add := func(call string, e api.Errno, numbers ...int) {
		all = append(all, result{call: call, numbers: slices.Clone(numbers), e: e})
	}
	add("Check", chain.Check(t))
	m, e := chain.Owners(t, q.lot)
	all = append(all, result{call: "Owners", rows: m, e: e})
	l, e := chain.Broken(t, q.lot)
	add("Broken", e, l...)
	n, k, e := chain.Count(t)
	add("Count", e, n, k)
	l, e = chain.Best(t)
	add("Best", e, l...)
	n, e = chain.Of(t, q.deal, q.horse)
	add("Of", e, n)
	n, e = chain.Dusk(t, q.horse, q.person)
	add("Dusk", e, n)
	n, e = chain.Had(t, q.horse, q.person)
	add("Had", e, n)
	r, e := chain.Hands(t, q.horse)
	add("Hands", e, r.From, r.To)
	m, e = chain.Chains(t, q.horse)
	all = append(all, result{call: "Chains", rows: m, e: e})
	l, e = chain.Struck(t)
	add("Struck", e, l...)
	n, k, e = chain.Suit(t)
	add("Suit", e, n, k)
	l, e = chain.Decide(t, q.horse)
	add("Decide", e, l...)
	a, e := chain.Add(t, q.more)
	return append(all, result{call: "Add", trade: a, e: e})
}

// errorsOf returns the error of each call by its name.
func errorsOf(t *testing.T, a api.Trade, q question) map[string]api.Errno {
	t.Helper()
	all := map[string]api.Errno{}
	for _, r := range calls(a, q) {
		all[r.call] = r.e
		if r.e != api.OK && !r.zero() {
			t.Errorf("%s of %v, %v: %v", r.call, a, q, r)
		}
	}
	return all
}

func expect(t *testing.T, name string, got map[string]api.Errno, want api.Errno, of ...string) {
	t.Helper()
	for _, call := range of {
		if got[call] != want {
			t.Errorf("%s: %s returns %v, not %v", name, call, got[call], want)
		}
	}
}

func TestErrorsComeAloneAndInOrder(t *testing.T) { // R1, R3, P4.1
	wrong := question{lot: ints{9}, deal: 9, horse: -1, person: 9, more: deal(9, 9)}
	alone, others := []string{"Check", "Count", "Best", "Struck"}, []string{"Of", "Dusk", "Had", "Hands", "Chains", "Decide"}
	for _, x := range allBad() {
		got := errorsOf(t, x.t, wrong)
		expect(t, x.name, got, x.want, slices.Concat(alone, others, []string{"Owners", "Broken", "Suit", "Add"})...)
	}
	got := errorsOf(t, exampleS(), wrong)
	expect(t, "S", got, api.OK, append(alone, "Suit")...)
	expect(t, "S", got, api.ErrNobody, append(others, "Add")...)
	expect(t, "S", got, api.ErrUnder, "Owners", "Broken")
	got = errorsOf(t, full(), wrong)
	expect(t, "full", got, api.OK, alone...)
	expect(t, "full", got, api.ErrNobody, others...)
	expect(t, "full", got, api.ErrVoid, "Suit")
	expect(t, "full", got, api.ErrOver, "Add")
	got = errorsOf(t, quiet(), question{lot: ints{0}, more: deal(2, 0, 0)})
	expect(t, "quiet", got, api.ErrOver, "Owners", "Broken")
	expect(t, "quiet", got, api.ErrNobody, "Of")
	expect(t, "quiet", got, api.ErrFalse, "Add")
}

// asked is all that can be asked of the sample with its numbers.
func (s sample) asked() []result {
	var all []result
	for horse := range s.t.Dawn {
		for n := range max(s.t.Persons, len(s.t.Deals)) {
			all = append(all, calls(s.t, question{lot: s.lots[len(s.lots)-1], deal: n, horse: horse, person: n, more: deal(n, 0, horse)})...)
		}
	}
	return all
}

func TestNothingIsKept(t *testing.T) { // R2, R6
	list := samples(100)
	before := make([][]result, len(list))
	for i, s := range list {
		before[i] = s.asked()
	}
	var wait sync.WaitGroup
	for i, s := range slices.Backward(list) {
		wait.Add(1)
		go func() {
			defer wait.Done()
			if again := s.asked(); !reflect.DeepEqual(again, before[i]) {
				t.Errorf("sample %d: %v, then %v", i, before[i], again)
			}
		}()
	}
	wait.Wait()
}

// roomy returns a copy of the list with elements behind its end that must stay as they are.
func roomy[T any](list []T, behind T) []T {
	long := append(slices.Clone(list), behind, behind, behind)
	return long[:len(list)]
}

// roomyTrade returns a copy of the trade with room behind all its lists.
func roomyTrade(t api.Trade) api.Trade {
	t.Dawn, t.Deals = roomy(t.Dawn, -7), roomy(t.Deals, deal(-7, -7, -7))
	for i := range t.Deals {
		t.Deals[i].Horses = roomy(t.Deals[i].Horses, -7)
	}
	return t
}

// sameBehind compares trades, and what is behind the ends of their lists.
func sameBehind(a, b api.Trade) bool {
	same := sameTrade(a, b) && slices.Equal(a.Dawn[:len(a.Dawn)+3], b.Dawn[:len(b.Dawn)+3])
	for i := range a.Deals {
		l, m := a.Deals[i].Horses, b.Deals[i].Horses
		same = same && slices.Equal(l[:len(l)+3], m[:len(m)+3])
	}
	return same && slices.EqualFunc(a.Deals[:len(a.Deals)+3], b.Deals[:len(b.Deals)+3], sameDeal)
}

func TestNoArgumentIsChanged(t *testing.T) { // R4
	list := samples(100)
	for _, a := range []api.Trade{exampleS(), exampleT(), exampleU(), unknown(), full(), quiet()} {
		list = append(list, sampleOf(a))
	}
	for i, s := range list {
		before := roomyTrade(s.t)
		s.t = roomyTrade(s.t)
		s.asked()
		lot, more := roomy(s.best[0], -7), deal(0, 1, roomy(ints{0}, -7)...)
		calls(s.t, question{lot: lot, more: more})
		if !sameBehind(s.t, before) || !slices.Equal(lot, s.best[0]) || !sameDeal(more, deal(0, 1, 0)) {
			t.Errorf("sample %d: an argument is changed", i)
		}
	}
}

func spoil(list []int) {
	list = list[:cap(list)]
	for i := range list {
		list[i] = -99
	}
}

func spoilTrade(t api.Trade) {
	spoil(t.Dawn)
	deals := t.Deals[:cap(t.Deals)]
	for i := range deals {
		spoil(deals[i].Horses)
		deals[i] = deal(-99, -99)
	}
}

func TestNoMemoryIsShared(t *testing.T) { // R4
	for i, s := range samples(200) {
		s.t = roomyTrade(s.t)
		before := roomyTrade(s.t)
		q := question{lot: roomy(s.best[0], -7), more: deal(0, 1, roomy(ints{0}, -7)...)}
		lot := slices.Clone(q.lot)
		all, want := calls(s.t, q), calls(s.t, q)
		for n, r := range all {
			spoil(r.numbers)
			spoilTrade(r.trade)
			for k, row := range r.rows {
				spoil(row)
				if k+1 < len(r.rows) && !slices.Equal(r.rows[k+1], want[n].rows[k+1]) {
					t.Errorf("sample %d: two lists of %s share memory", i, r.call)
				}
			}
		}
		if !sameBehind(s.t, before) || !slices.Equal(q.lot, lot) || !sameDeal(q.more, deal(0, 1, 0)) {
			t.Errorf("sample %d: a result shares memory with an argument", i)
		}
		if again := calls(s.t, q); !slices.EqualFunc(again, want, result.same) {
			t.Errorf("sample %d: two results share memory", i)
		}
	}
	lists := func() [][]int {
		u := exampleU()
		a, e := chain.Broken(u, ints{0, 0, 1, 0})
		b, f := chain.Best(u)
		c, g := chain.Struck(u)
		d, h := chain.Decide(exampleT(), 0)
		if e != api.OK || f != api.OK || g != api.OK || h != api.OK {
			t.Errorf("%v %v %v %v", e, f, g, h)
		}
		return rows{a, b, c, d}
	}
	first := lists()
	for _, l := range first {
		spoil(l)
	}
	if got, want := lists(), (rows{{0}, {0, 0, 1, 0}, {0, 2}, {1}}); !sameRows(got, want) {
		t.Errorf("%v, not %v", got, want)
	}
}

func TestNilIsEmpty(t *testing.T) { // R4
	for _, x := range []struct{ a, b api.Trade }{
		{api.Trade{Persons: 2, Dawn: ints{0}}, api.Trade{Persons: 2, Dawn: ints{0}, Deals: []api.Deal{}}},
		{api.Trade{Persons: 2}, api.Trade{Persons: 2, Dawn: ints{}, Deals: []api.Deal{}}},
		{trade(ints{0}, api.Deal{Buyer: 1}), trade(ints{0}, api.Deal{Buyer: 1, Horses: ints{}})},
	} {
		c, d := question{more: deal(0, 1, 0)}, question{lot: ints{}, more: deal(0, 1, 0)}
		if l, m := calls(x.a, c), calls(x.b, d); !slices.EqualFunc(l, m, result.same) {
			t.Errorf("%v, and if nil is empty %v", l, m)
		}
		c.more.Horses, d.more.Horses = nil, ints{}
		if l, m := calls(x.a, c), calls(x.b, d); !slices.EqualFunc(l, m, result.same) {
			t.Errorf("%v, and if nil is empty %v", l, m)
		}
	}
}

func TestAnyArgument(t *testing.T) { // P1, R5
	d := dice(5)
	odd := []int{math.MinInt, math.MaxInt, math.MinInt + 1, -2, -1, 0, 1, 2, 3, 4, 5, 6, 7, 8, 63, 64, 1 << 32}
	pick := func() int { return d.one(odd) }
	some := func(n int) []int {
		l := make(ints, d.roll(n))
		for i := range l {
			l[i] = pick()
		}
		return l
	}
	for range 4000 {
		a := d.trade(2+d.roll(3), 1+d.roll(3), d.roll(5), 2)
		for range d.roll(3) {
			switch d.roll(6) {
			case 0:
				a.Persons = pick()
			case 1:
				a.Dawn = some(6)
			case 2:
				a.Deals = append(a.Deals, deal(pick(), pick(), some(5)...))
			case 3:
				a.Deals = append(a.Deals, deal(0, 1, some(5)...))
			case 4:
				a.Deals = make([]api.Deal, d.roll(9))
			case 5:
				a = api.Trade{}
			}
		}
		errorsOf(t, a, question{lot: some(8), deal: pick(), horse: pick(), person: pick(), more: deal(pick(), pick(), some(5)...)})
	}
}

func TestTheLargestTrade(t *testing.T) { // P1: it returns, and soon
	a := unknown()
	got := errorsOf(t, a, question{lot: make(ints, 6), deal: 5, horse: 2, person: 3, more: deal(0, 1, 0)})
	expect(t, "the largest trade", got, api.OK, "Check", "Owners", "Broken", "Count", "Best", "Of", "Dusk", "Had", "Hands", "Chains", "Struck", "Suit", "Decide")
	expect(t, "the largest trade", got, api.ErrOver, "Add")
	s := sampleOf(a)
	for horse := range a.Dawn {
		if l := must[[][]int](t)(chain.Chains(a, horse)); !sameRows(l, modelChains(a, s.best, horse)) {
			t.Errorf("Chains of the horse %d: %d", horse, len(l))
		}
		if l := must[[]int](t)(chain.Decide(a, horse)); !slices.Equal(l, modelDecide(a, s.best, horse)) {
			t.Errorf("Decide of the horse %d: %v", horse, l)
		}
	}
}
