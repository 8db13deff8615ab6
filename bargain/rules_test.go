package bargain_test

import (
	"math"
	"reflect"
	"slices"
	"sync"
	"testing"

	"palfrey/api"
	"palfrey/bargain"
)

// result is all that a call has returned, in one form, so that results can be compared.
type result struct {
	call    string
	numbers []int
	bargain api.Bargain
	e       api.Errno
}

func (r result) zero() bool {
	return !slices.ContainsFunc(r.numbers, func(n int) bool { return n != 0 }) && sameBargain(r.bargain, api.Bargain{})
}

// question is all that can be asked beside a bargain.
type question struct{ limit, n, seller, buyer, side int }

// calls calls each function once.
func calls(b api.Bargain, q question) []result {
	var all []result
	add := func(call string, e api.Errno, numbers ...int) {
		all = append(all, result{call: call, numbers: slices.Clone(numbers), e: e})
	}
	add("Check", bargain.Check(b))
	ask, bid, turn, e := bargain.Now(b)
	add("Now", e, ask, bid, turn)
	s, m, e := bargain.Limits(b)
	add("Limits", e, s.From, s.To, m.From, m.To)
	l, e := bargain.Moves(b, q.limit)
	add("Moves", e, l...)
	n, e := bargain.Price(b, q.seller, q.buyer)
	add("Price", e, n)
	n, e = bargain.Best(b, q.seller, q.buyer)
	add("Best", e, n)
	l, e = bargain.Outcomes(b)
	add("Outcomes", e, l...)
	l, e = bargain.Reach(b)
	add("Reach", e, l...)
	n, e = bargain.Meets(b)
	add("Meets", e, n)
	n, e = bargain.Sure(b, q.side, q.limit)
	add("Sure", e, n)
	l, e = bargain.Narrowed(b)
	add("Narrowed", e, l...)
	n, e = bargain.Penny(b)
	add("Penny", e, n)
	c, e := bargain.Name(b, q.n)
	return append(all, result{call: "Name", bargain: c, e: e})
}

// errorsOf returns the error of each call by its name.
func errorsOf(t *testing.T, b api.Bargain, q question) map[string]api.Errno {
	t.Helper()
	all := map[string]api.Errno{}
	for _, r := range calls(b, q) {
		all[r.call] = r.e
		if r.e != api.OK && !r.zero() {
			t.Errorf("%s of %v, %v: %v", r.call, b, q, r)
		}
	}
	return all
}

func expect(t *testing.T, name string, got map[string]api.Errno, want api.Errno, of ...string) {
	t.Helper()
	for _, call := range of {
		if got[call] != want {
			t.Errorf("%s: %s returns %v, not %v", name, call, got[call], want)
		}
	}
}

// alone is the functions of which a bargain is the only argument.
func alone() []string {
	return []string{"Check", "Now", "Limits", "Outcomes", "Reach", "Meets", "Narrowed"}
}

func TestErrorsComeAloneAndInOrder(t *testing.T) { // R1, R3, P3.1
	wrong := question{-1, 13, -1, 13, 2}
	for _, x := range allBad() {
		got := errorsOf(t, x.b, wrong)
		expect(t, x.name, got, x.want, append(alone(), "Moves", "Price", "Best", "Sure", "Penny", "Name")...)
	}
	got := errorsOf(t, exampleS(), wrong)
	expect(t, "S", got, api.OK, append(alone(), "Penny")...)
	expect(t, "S", got, api.ErrFalse, "Moves", "Price", "Best")
	expect(t, "S", got, api.ErrClass, "Sure")
	expect(t, "S", got, api.ErrFigure, "Name")
	got = errorsOf(t, exampleS(7, 5, -1, -1), wrong)
	expect(t, "parted", got, api.OK, alone()...)
	expect(t, "parted", got, api.ErrShut, "Moves", "Best", "Name")
	expect(t, "parted", got, api.ErrFalse, "Price")
	expect(t, "parted", got, api.ErrClass, "Sure")
	expect(t, "parted", got, api.ErrVoid, "Penny")
	got = errorsOf(t, longest(24), question{0, 0, 0, 0, 0})
	expect(t, "24 numbers", got, api.ErrShut, "Moves", "Best", "Name")
	expect(t, "24 numbers", got, api.ErrFalse, "Price", "Sure")
}

func TestNothingIsKept(t *testing.T) { // R2, R6
	list := samples(100)
	ask := func(b api.Bargain) []result {
		s, m, _ := bargain.Limits(b)
		return calls(b, question{limit: s.From, n: b.Ask - 2, seller: s.To, buyer: m.From})
	}
	before := make([][]result, len(list))
	for i, b := range list {
		before[i] = ask(b)
	}
	var wait sync.WaitGroup
	for i, b := range slices.Backward(list) {
		wait.Add(1)
		go func() {
			defer wait.Done()
			if again := ask(b); !reflect.DeepEqual(again, before[i]) {
				t.Errorf("sample %d: %v, then %v", i, before[i], again)
			}
		}()
	}
	wait.Wait()
}

// roomy returns a copy of the list with numbers behind its end that must stay as they are.
func roomy(list []int) []int {
	long := append(slices.Clone(list), -7, -7, -7)
	return long[:len(list)]
}

func TestNoArgumentIsChanged(t *testing.T) { // R4
	for i, b := range samples(200) {
		want := roomy(b.Said)
		b.Said = roomy(b.Said)
		before := b
		for n := -1; n <= api.MaxPrice; n++ {
			calls(b, question{limit: n, n: n, seller: n, buyer: n, side: api.BuyerSide})
		}
		if !slices.Equal(b.Said[:len(b.Said)+3], want[:len(want)+3]) || !sameBargain(b, before) {
			t.Errorf("sample %d: an argument is changed", i)
		}
	}
}

func TestNoMemoryIsShared(t *testing.T) { // R4
	b := exampleS(8, 4)
	b.Said = roomy(b.Said)
	for i, get := range []func() ([]int, api.Errno){
		func() ([]int, api.Errno) { return bargain.Moves(b, 4) },
		func() ([]int, api.Errno) { return bargain.Outcomes(b) },
		func() ([]int, api.Errno) { return bargain.Reach(b) },
		func() ([]int, api.Errno) { return bargain.Narrowed(exampleS(8, 4, 6, 6)) },
		func() ([]int, api.Errno) { c, e := bargain.Name(b, 6); return c.Said, e },
		func() ([]int, api.Errno) { c, e := bargain.Name(exampleS(), 8); return c.Said, e },
	} {
		x, _ := get()
		y, e := get()
		want := slices.Clone(y)
		for n := range x[:cap(x)] {
			x[:cap(x)][n] = -99
		}
		z, _ := get()
		if e != api.OK || len(want) == 0 || !slices.Equal(y, want) || !slices.Equal(z, want) || !slices.Equal(b.Said[:5], ints{8, 4, -7, -7, -7}) {
			t.Errorf("call %d: %v: %v %v %v", i, e, x, y, z)
		}
	}
}

func TestNilIsEmpty(t *testing.T) { // R4
	q := question{limit: 4, n: 8, seller: 4, buyer: 8}
	a, b := exampleS(), exampleS(ints{}...)
	b.Said = ints{}
	if x, y := calls(a, q), calls(b, q); !reflect.DeepEqual(x, y) {
		t.Errorf("%v, and if nil is empty %v", x, y)
	}
}

func TestAnyArgument(t *testing.T) { // P1, R5
	d := dice(5)
	odd := []int{math.MinInt, math.MaxInt, math.MinInt + 1, -13, -2, -1, 0, 1, 2, 3, 4, 7, 11, 12, 13, 24, 25, 1 << 32}
	pick := func() int { return d.one(odd) }
	for range 4000 {
		b := d.bargain(d.roll(4))
		for range d.roll(3) {
			switch d.roll(8) {
			case 0:
				b.Ask = pick()
			case 1:
				b.Bid = pick()
			case 2:
				b.First = pick()
			case 3:
				b.Step = of(pick(), pick())
			case 4:
				b.Seller = of(pick(), pick())
			case 5:
				b.Buyer = of(pick(), pick())
			case 6:
				b = say(b, pick())
			case 7:
				b.Said = make(ints, d.roll(30))
			}
		}
		errorsOf(t, b, question{pick(), pick(), pick(), pick(), d.one(odd)})
	}
	errorsOf(t, api.Bargain{}, question{})
}

func TestTheLargestBargain(t *testing.T) { // P1: it returns, and soon
	for step := 1; step <= api.MaxStep; step++ {
		for first := range 2 {
			b := change(free(api.MaxPrice, 0, first, step), func(b *api.Bargain) { b.Seller, b.Buyer = of(0, 12), of(0, 12) })
			got := errorsOf(t, b, question{seller: 5, buyer: 9, limit: 5, n: -1})
			expect(t, "the largest bargain", got, api.OK, append(alone(), "Moves", "Price", "Best", "Sure", "Penny")...)
			if l := must[[]int](t)(bargain.Reach(b)); !slices.Equal(l, modelReach(b)) {
				t.Errorf("Reach of %v is %v", b, l)
			}
		}
	}
}
