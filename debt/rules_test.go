package debt_test

import (
	"math"
	"reflect"
	"slices"
	"sync"
	"testing"
	"time"

	"palfrey/api"
	"palfrey/debt"
)

// result is all that a call has returned, in one form, so that results can be compared.
type result struct {
	call    string
	numbers []int
	debts   debts
	owing   api.Owing
	e       api.Errno
}

func (r result) zero() bool {
	return !slices.ContainsFunc(r.numbers, func(n int) bool { return n != 0 }) && len(r.debts) == 0 && sameOwing(r.owing, api.Owing{})
}

func (r result) same(q result) bool {
	return r.call == q.call && r.e == q.e && slices.Equal(r.numbers, q.numbers) && slices.Equal(r.debts, q.debts) && sameOwing(r.owing, q.owing)
}

// question is all that can be asked beside an owing.
type question struct {
	pays debts
	x, y int
	more api.Debt
}

// calls calls each function once.
func calls(o api.Owing, q question) []result {
	all := []result{{call: "Check", e: debt.Check(o)}, {call: "Right", e: debt.Right(o, q.pays)}}
	add := func(call string, list []int, e api.Errno) { all = append(all, result{call: call, numbers: list, e: e}) }
	one := func(call string, n int, e api.Errno) { add(call, ints{n}, e) }
	l, e := debt.Net(o)
	add("Net", l, e)
	p, e := debt.Merge(o)
	all = append(all, result{call: "Merge", debts: p, e: e})
	l, e = debt.Circle(o)
	add("Circle", l, e)
	l, e = debt.Groups(o)
	add("Groups", l, e)
	p, e = debt.Fewest(o)
	all = append(all, result{call: "Fewest", debts: p, e: e})
	n, e := debt.Count(o)
	one("Count", n, e)
	n, e = debt.Verdict(o, q.x, q.y)
	one("Verdict", n, e)
	n, e = debt.Apart(o, q.x, q.y)
	one("Apart", n, e)
	l, e = debt.Poor(o)
	add("Poor", l, e)
	l, e = debt.Order(o, q.pays)
	add("Order", l, e)
	p, l, e = debt.Exact(o)
	all = append(all, result{call: "Exact", debts: p, numbers: l, e: e})
	a, e := debt.Add(o, q.more)
	return append(all, result{call: "Add", owing: a, e: e})
}

// errorsOf returns the error of each call by its name.
func errorsOf(t *testing.T, o api.Owing, q question) map[string]api.Errno {
	t.Helper()
	all := map[string]api.Errno{}
	for _, r := range calls(o, q) {
		all[r.call] = r.e
		if r.e != api.OK && !r.zero() {
			t.Errorf("%s of %v, %v: %v", r.call, o, q, r)
		}
	}
	return all
}

func expect(t *testing.T, name string, got map[string]api.Errno, want api.Errno, of ...string) {
	t.Helper()
	for _, call := range of {
		if got[call] != want {
			t.Errorf("%s: %s returns %v, not %v", name, call, got[call], want)
		}
	}
}

func TestErrorsComeAloneAndInOrder(t *testing.T) { // R1, R3, P5.1
	wrong := question{pays: of(9, 9, 0), x: 9, y: 9, more: api.Debt{From: 9, To: 9}}
	alone, void := []string{"Check", "Net", "Merge", "Groups", "Fewest", "Count", "Poor"}, []string{"Circle", "Exact"}
	others := []string{"Verdict", "Apart", "Right", "Order", "Add"}
	for _, x := range allBad() {
		expect(t, x.name, errorsOf(t, x.o, wrong), x.want, slices.Concat(alone, void, others)...)
	}
	got := errorsOf(t, exampleS(), wrong)
	expect(t, "S", got, api.OK, append(alone, void...)...)
	expect(t, "S", got, api.ErrNobody, others...)
	got = errorsOf(t, full(), question{pays: slices.Repeat(of(9, 9, 0), 9), more: api.Debt{From: 9}})
	expect(t, "full", got, api.OK, alone...)
	expect(t, "full", got, api.ErrVoid, void...)
	expect(t, "full", got, api.ErrClass, "Verdict", "Apart")
	expect(t, "full", got, api.ErrOver, "Right", "Order", "Add")
	got = errorsOf(t, without(2, 0, 1, 1), question{x: 1, pays: of(0, 1, 2), more: api.Debt{From: 1}})
	expect(t, "two", got, api.OK, append(alone, "Verdict")...)
	expect(t, "two", got, api.ErrVoid, append(void, "Apart")...)
	expect(t, "two", got, api.ErrFalse, "Right", "Order")
	expect(t, "two", got, api.ErrFigure, "Add")
}

// asked is all that can be asked of the sample with its numbers.
func (s sample) asked() []result {
	all := calls(s.o, question{pays: s.fewest[0]})
	for _, p := range twos(s.o) {
		all = append(all, calls(s.o, question{pays: s.all[len(s.all)-1], x: p.x, y: p.y, more: api.Debt{From: p.x, To: p.y, Pounds: 1}})...)
	}
	return all
}

func TestNothingIsKept(t *testing.T) { // R2, R6
	list := samples(60)
	before := make([][]result, len(list))
	for i, s := range list {
		before[i] = s.asked()
	}
	var wait sync.WaitGroup
	for i, s := range slices.Backward(list) {
		wait.Add(1)
		go func() {
			defer wait.Done()
			if again := s.asked(); !reflect.DeepEqual(again, before[i]) {
				t.Errorf("sample %d: %v, then %v", i, before[i], again)
			}
		}()
	}
	wait.Wait()
}

// roomy returns a copy of the list with elements behind its end that must stay as they are.
func roomy[T any](list []T, behind T) []T {
	long := append(slices.Clone(list), behind, behind, behind)
	return long[:len(list)]
}

var behind = api.Debt{From: -7, To: -7, Pounds: -7}

// roomyOwing returns a copy of the owing with room behind all its lists.
func roomyOwing(o api.Owing) api.Owing {
	o.Purses, o.Debts = roomy(o.Purses, nil), roomy(o.Debts, behind)
	for i := range o.Purses {
		o.Purses[i] = roomy(o.Purses[i], -7)
	}
	return o
}

// sameBehind compares owings, and what is behind the ends of their lists.
func sameBehind(a, b api.Owing) bool {
	same := sameOwing(a, b) && slices.Equal(a.Debts[:len(a.Debts)+3], b.Debts[:len(b.Debts)+3])
	for i := range a.Purses {
		l, m := a.Purses[i], b.Purses[i]
		same = same && slices.Equal(l[:len(l)+3], m[:len(m)+3])
	}
	return same && slices.EqualFunc(a.Purses[:len(a.Purses)+3], b.Purses[:len(b.Purses)+3], slices.Equal[ints])
}

func TestNoArgumentIsChanged(t *testing.T) { // R4
	list := samples(100)
	for _, o := range []api.Owing{exampleS(), exampleT(), exampleU(), without(2), without(3, 0, 1, 1, 1, 2, 1)} {
		list = append(list, sampleOf(o))
	}
	for i, s := range list {
		before := roomyOwing(s.o)
		s.o = roomyOwing(s.o)
		last := s.all[len(s.all)-1]
		pays := roomy(last, behind)
		// Not in the order in which they would be sorted.
		slices.Reverse(pays)
		given := roomy(pays, behind)
		s.asked()
		calls(s.o, question{pays: pays, more: api.Debt{From: 1, To: 0, Pounds: 1}})
		if !sameBehind(s.o, before) || !slices.Equal(pays[:len(pays)+3], given[:len(given)+3]) {
			t.Errorf("sample %d: an argument is changed", i)
		}
	}
}

func spoil(list []int) {
	list = list[:cap(list)]
	for i := range list {
		list[i] = -99
	}
}

func spoilDebts(list debts) {
	list = list[:cap(list)]
	for i := range list {
		list[i] = api.Debt{From: -99, To: -99, Pounds: -99}
	}
}

func (r result) spoil() {
	spoil(r.numbers)
	spoilDebts(r.debts)
	spoilDebts(r.owing.Debts)
	purses := r.owing.Purses[:cap(r.owing.Purses)]
	for i := range purses {
		spoil(purses[i])
		purses[i] = nil
	}
}

func TestNoMemoryIsShared(t *testing.T) { // R4
	for i, s := range samples(200) {
		s.o = roomyOwing(s.o)
		before := roomyOwing(s.o)
		q := question{pays: roomy(s.fewest[0], behind), x: 1, more: api.Debt{From: 1, To: 0, Pounds: 1}}
		given := slices.Clone(q.pays)
		all, want := calls(s.o, q), calls(s.o, q)
		for n := range all {
			all[n].spoil()
			if !slices.EqualFunc(all[n+1:], want[n+1:], result.same) {
				t.Errorf("sample %d: %s shares memory with another result", i, all[n].call)
			}
		}
		if !sameBehind(s.o, before) || !slices.Equal(q.pays, given) {
			t.Errorf("sample %d: a result shares memory with an argument", i)
		}
		if again := calls(s.o, q); !slices.EqualFunc(again, want, result.same) {
			t.Errorf("sample %d: a call returns what was spoilt", i)
		}
	}
	o := must[api.Owing](t)(debt.Add(exampleS(), api.Debt{From: 1, To: 0, Pounds: 1}))
	for i := range o.Purses {
		spoil(o.Purses[i])
		for k, coins := range o.Purses[i+1:] {
			if !slices.Equal(coins, exampleS().Purses[i+1+k]) {
				t.Errorf("two purses of %v share memory", o)
			}
		}
	}
}

func TestNilIsEmpty(t *testing.T) { // R4
	for _, x := range []struct{ a, b api.Owing }{
		{without(2), api.Owing{Purses: rows{{}, {}}, Debts: debts{}}},
		{without(3, 0, 1, 1), api.Owing{Purses: rows{{}, nil, {}}, Debts: of(0, 1, 1)}},
		{owing(rows{{1}, nil}, 0, 1, 1), owing(rows{{1}, {}}, 0, 1, 1)},
		{api.Owing{}, api.Owing{Purses: rows{}, Debts: debts{}}},
	} {
		more := api.Debt{From: 1, To: 0, Pounds: 1}
		if l, m := calls(x.a, question{x: 1, more: more}), calls(x.b, question{x: 1, more: more, pays: debts{}}); !slices.EqualFunc(l, m, result.same) {
			t.Errorf("%v, and if nil is empty %v", l, m)
		}
	}
}

func TestAnyArgument(t *testing.T) { // P1, R5
	d := dice(5)
	odd := []int{math.MinInt, math.MaxInt, math.MinInt + 1, -2, -1, 0, 1, 2, 3, 4, 5, 6, 8, 9, 10, 72, 73, 1 << 32}
	pick := func() int { return d.one(odd) }
	any := func() api.Debt { return api.Debt{From: pick(), To: pick(), Pounds: pick()} }
	some := func(n int) debts {
		l := make(debts, d.roll(n))
		for i := range l {
			l[i] = d.debt(5, 9)
			if d.roll(3) == 0 {
				l[i] = any()
			}
		}
		return l
	}
	coins := func() []int {
		l := make(ints, d.roll(6))
		for i := range l {
			l[i] = pick()
		}
		return l
	}
	for range 3000 {
		o := d.owing(2+d.roll(4), d.roll(6), 9)
		for range d.roll(3) {
			switch d.roll(6) {
			case 0:
				o.Purses = make(rows, d.roll(8))
			case 1:
				o.Purses = append(o.Purses, coins())
			case 2:
				o.Debts = append(o.Debts, any())
			case 3:
				o.Debts = some(11)
			case 4:
				o.Debts = make(debts, d.roll(10))
			case 5:
				o = api.Owing{}
			}
		}
		errorsOf(t, o, question{pays: some(11), x: pick(), y: pick(), more: any()})
	}
}

func TestManyCoinsThatFit(t *testing.T) { // P1, P5.6: it returns, and soon, though the payments can be begun in a great many ways
	o := owing(rows{{3, 1, 8}, {2, 8, 6}, {2, 1, 5}, {4, 7, 4}, {3, 4, 2}}, 2, 4, 9, 3, 0, 7, 1, 4, 2, 2, 4, 2, 3, 4, 1)
	pays := of(4, 0, 9, 1, 0, 8, 2, 1, 14, 2, 3, 7, 2, 4, 15, 1, 4, 8, 0, 2, 25, 3, 0, 15)
	begin := time.Now()
	if l, e := debt.Order(o, pays); e != api.ErrVoid || len(l) != 0 {
		t.Errorf("Order of %v, %v: %v %v", o, pays, l, e)
	}
	if spent := time.Since(begin); spent > 20*time.Second {
		t.Errorf("Order takes %v", spent)
	}
}

func TestTheLargestOwing(t *testing.T) { // P1: it returns, and soon
	o := full()
	o.Debts = o.Debts[:7]
	pays := must[debts](t)(debt.Fewest(o))
	got := errorsOf(t, o, question{pays: pays, x: 4, y: 0, more: api.Debt{From: 3, To: 4, Pounds: 9}})
	expect(t, "the largest owing", got, api.OK, "Check", "Right", "Net", "Merge", "Groups", "Fewest", "Count", "Verdict", "Apart", "Poor", "Add")
	expect(t, "the largest owing", got, api.ErrVoid, "Circle", "Order", "Exact")
}
