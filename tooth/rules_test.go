package tooth_test

import (
	"math"
	"reflect"
	"slices"
	"sync"
	"testing"

	"palfrey/api"
	"palfrey/tooth"
)

// result is all that a call has returned, in one form, so that results can be compared.
type result struct {
	call    string
	numbers []int
	e       api.Errno
}

func (r result) zero() bool {
	return !slices.ContainsFunc(r.numbers, func(n int) bool { return n != 0 })
}

// question is all that can be asked beside a jaw.
type question struct {
	a, b                          looks
	mouth, age, as, look, filings int
}

// calls calls each function once.
func calls(j api.Jaw, q question) []result {
	var all []result
	add := func(call string, e api.Errno, numbers ...int) {
		all = append(all, result{call, numbers, e})
	}
	add("Check", tooth.Check(j))
	add("CheckLooks", tooth.CheckLooks(j, q.a))
	l, e := tooth.Mouths(j, q.age)
	add("Mouths", e, l...)
	l, e = tooth.Shows(j, q.mouth)
	add("Shows", e, l...)
	is, e := tooth.Passes(j, q.age, q.as)
	add("Passes", e, number(is))
	n, e := tooth.Cheat(j, q.age)
	add("Cheat", e, n)
	n, e = tooth.Filings(j, q.a)
	add("Filings", e, n)
	l, e = tooth.Ages(j, q.a, q.filings)
	add("Ages", e, l...)
	r, e := tooth.Age(j, q.a)
	add("Age", e, r.From, r.To)
	n, e = tooth.Count(j, q.a)
	add("Count", e, n)
	n, l, e = tooth.Course(j, q.a)
	add("Course", e, append([]int{n}, l...)...)
	n, e = tooth.Verdict(j, q.a, q.look)
	add("Verdict", e, n)
	n, m, e := tooth.Settle(j, q.a)
	add("Settle", e, n, m)
	is, e = tooth.Alike(j, q.a, q.b)
	add("Alike", e, number(is))
	return all
}

// errorsOf returns the error of each call by its name.
func errorsOf(t *testing.T, j api.Jaw, q question) map[string]api.Errno {
	all := map[string]api.Errno{}
	for _, r := range calls(j, q) {
		all[r.call] = r.e
		if r.e != api.OK && !r.zero() {
			t.Errorf("%s of %v: %v", r.call, q, r)
		}
	}
	return all
}

func expect(t *testing.T, name string, got map[string]api.Errno, want api.Errno, of ...string) {
	t.Helper()
	for _, call := range of {
		if got[call] != want {
			t.Errorf("%s: %s returns %v, not %v", name, call, got[call], want)
		}
	}
}

func ofLooks() []string {
	return []string{"CheckLooks", "Filings", "Ages", "Age", "Count", "Course", "Verdict", "Settle", "Alike"}
}

func ofNumbers() []string { return []string{"Mouths", "Passes", "Cheat"} }

func TestErrorsComeAloneAndInOrder(t *testing.T) { // R1, R3, P2.1
	wrong := question{seen(9, 9), make(looks, 9), 9, 13, -1, 9, 5}
	for _, x := range badJaws() {
		got := errorsOf(t, x.j, wrong)
		expect(t, x.name, got, x.want, append(append(ofLooks(), ofNumbers()...), "Check", "Shows")...)
	}
	for _, x := range badLooks() {
		q := wrong
		q.a = x.l
		got := errorsOf(t, exampleJ(), q)
		expect(t, x.name, got, x.want, ofLooks()...)
		expect(t, x.name, got, api.ErrFigure, ofNumbers()...)
		expect(t, x.name, got, api.ErrNobody, "Shows")
		expect(t, x.name, got, api.OK, "Check")
	}
	q := question{exampleE(), make(looks, 5), -1, -1, 0, -1, -1}
	got := errorsOf(t, exampleJ(), q)
	expect(t, "single numbers", got, api.ErrFigure, "Mouths", "Passes", "Cheat", "Ages")
	expect(t, "single numbers", got, api.ErrNobody, "Shows", "Verdict")
	expect(t, "no truth", got, api.ErrVoid, "Filings", "Age", "Course", "Settle")
	expect(t, "no truth", got, api.OK, "Check", "CheckLooks", "Count")
	expect(t, "the second looks", got, api.ErrOver, "Alike")
	got = errorsOf(t, exampleJ(), question{a: exampleE(), b: exampleE(), look: 1, filings: 4})
	expect(t, "no truth", got, api.ErrVoid, "Filings", "Ages", "Age", "Course", "Verdict", "Settle")
	expect(t, "no truth", got, api.OK, "CheckLooks", "Count", "Alike")
}

func TestNothingIsKept(t *testing.T) { // R2, R6
	list := samples(60)
	ask := func(s sample) []result {
		return calls(s.j, question{a: s.looks, b: s.looks, age: 5, as: 2, filings: 1})
	}
	before := make([][]result, len(list))
	for i, s := range list {
		before[i] = ask(s)
	}
	var wait sync.WaitGroup
	for i, s := range slices.Backward(list) {
		wait.Add(1)
		go func() {
			defer wait.Done()
			if again := ask(s); !reflect.DeepEqual(again, before[i]) {
				t.Errorf("sample %d: %v, then %v", i, before[i], again)
			}
		}()
	}
	wait.Wait()
}

// roomy returns a copy of the list with numbers behind its end that must stay as they are.
func roomy[T any](list []T, behind T) []T {
	long := append(slices.Clone(list), behind, behind, behind, behind, behind)
	return long[:len(list)]
}

func roomyLists(lists rows) rows {
	var all rows
	for _, l := range lists {
		all = append(all, roomy(l, -7))
	}
	return roomy(all, ints{-7})
}

func whole[T any](list []T) []T { return list[:len(list)+5] }

func TestNoArgumentIsChanged(t *testing.T) { // R4
	d := dice(4)
	for i, s := range samples(100) {
		fresh := func() (api.Jaw, looks, looks) {
			j := api.Jaw{Next: roomyLists(s.j.Next), Filed: roomyLists(s.j.Filed)}
			return j, roomy(s.looks, api.Look{Year: -7}), roomy(together(s.looks, s.looks)[:len(s.looks)], api.Look{Year: -7})
		}
		j, a, b := fresh()
		sameJ, sameA, sameB := fresh()
		calls(j, question{a: a, b: b, mouth: d.roll(len(j.Next)), age: d.roll(13), as: d.roll(13), filings: d.roll(5)})
		same := slices.Equal(whole(a), whole(sameA)) && slices.Equal(whole(b), whole(sameB))
		for _, x := range [][2]rows{{j.Next, sameJ.Next}, {j.Filed, sameJ.Filed}} {
			for m, l := range x[0] {
				same = same && slices.Equal(whole(l), whole(x[1][m]))
			}
			same = same && reflect.DeepEqual(whole(x[0]), whole(x[1]))
		}
		if !same {
			t.Errorf("sample %d: an argument is changed", i)
		}
	}
}

func TestNoMemoryIsShared(t *testing.T) { // R4
	j, l := exampleJ(), exampleC()
	for i, get := range []func() ([]int, api.Errno){
		func() ([]int, api.Errno) { return tooth.Mouths(j, 3) },
		func() ([]int, api.Errno) { return tooth.Mouths(j, 0) },
		func() ([]int, api.Errno) { return tooth.Shows(j, 4) },
		func() ([]int, api.Errno) { return tooth.Ages(j, l, 0) },
		func() ([]int, api.Errno) { _, course, e := tooth.Course(j, seen(5, 5)); return course, e },
	} {
		a, _ := get()
		b, e := get()
		want := slices.Clone(b)
		for n := range a[:cap(a)] {
			a[:cap(a)][n] = -99
		}
		c, _ := get()
		if e != api.OK || len(want) == 0 || !slices.Equal(b, want) || !slices.Equal(c, want) || !reflect.DeepEqual(j, exampleJ()) || !slices.Equal(l, exampleC()) {
			t.Errorf("call %d: %v: %v %v %v", i, e, a, b, c)
		}
	}
}

func TestNilIsEmpty(t *testing.T) { // R4
	a, b := exampleJ(), exampleJ()
	for m := range b.Filed {
		if b.Filed[m] == nil {
			b.Filed[m] = ints{}
		}
	}
	x := calls(a, question{age: 5, as: 3})
	y := calls(b, question{a: looks{}, b: looks{}, age: 5, as: 3})
	if !reflect.DeepEqual(x, y) {
		t.Errorf("%v, and if nil is empty %v", x, y)
	}
	for i, j := range []api.Jaw{{Next: rows{}}, {Filed: rows{}}, {Next: rows{ints{}}, Filed: rows{nil}}, {Next: rows{nil}, Filed: rows{{}}}} {
		if e := tooth.Check(j); e != api.ErrUnder {
			t.Errorf("jaw %d: %v", i, e)
		}
	}
}

func TestAnyArgument(t *testing.T) { // P1, R5
	d := dice(5)
	odd := []int{math.MinInt, math.MaxInt, math.MinInt + 1, -1, 0, 1, 2, 3, 7, 8, 12, 13, 63, 64, 255, 256, 1 << 32}
	pick := func() int { return d.one(odd) }
	some := func(n int) []int {
		l := make([]int, n)
		for i := range l {
			l[i] = pick()
		}
		return l
	}
	for range 3000 {
		j := d.jaw()
		a, b := d.looks(j, d.roll(api.ToothLooks+1)), d.looks(j, d.roll(7))
		for range d.roll(3) {
			switch at := d.roll(len(j.Next) + 1); d.roll(6) {
			case 0:
				j.Next = append(slices.Clone(j.Next[:at]), some(d.roll(5)))
			case 1:
				j.Filed = append(slices.Clone(j.Filed[:min(at, len(j.Filed))]), some(d.roll(5)))
			case 2, 3:
				a = append(a, api.Look{Year: pick(), Seen: pick()})
			case 4:
				b = append(b, api.Look{Year: pick(), Seen: pick()})
			case 5:
				j.Filed = nil
			}
		}
		errorsOf(t, j, question{a, b, pick(), pick(), pick(), pick(), pick()})
	}
}

func TestTheLargestJaw(t *testing.T) { // P1: it returns, and soon
	next := slices.Repeat(rows{{5, 6, 7}, {2, 3, 4}, {0, 1, 2}, {0, 5, 7}}, 2)
	filed := rows{{1, 2, 3}, {2, 3, 4}, {3, 4, 5}, {4, 5, 6}, {5, 6, 7}, {0, 6, 7}, {0, 1, 7}, {0, 1, 2}}
	j := api.Jaw{Next: next, Filed: filed}
	for m := range next {
		s := newSample(j, seen(6, m))
		if n := must[int](t)(tooth.Count(j, s.looks)); n != len(s.best) {
			t.Errorf("Count of the mouth %d is %d, not %d", m, n, len(s.best))
		}
	}
}
