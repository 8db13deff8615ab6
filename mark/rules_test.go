package mark_test

import (
	"math"
	"reflect"
	"slices"
	"sync"
	"testing"

	"palfrey/api"
	"palfrey/mark"
)

// result is all that a call has returned, in one form, so that results can be compared.
type result struct {
	call    string
	numbers []int
	fair    api.Fair
	e       api.Errno
}

func (r result) zero() bool {
	return !slices.ContainsFunc(r.numbers, func(n int) bool { return n != 0 }) && sameFair(r.fair, api.Fair{})
}

func truth(b bool) int {
	if b {
		return 1
	}
	return 0
}

// calls calls each function once.
func calls(f api.Fair, list []int, x, y int, n api.Entry) []result {
	var all []result
	add := func(call string, e api.Errno, numbers ...int) {
		all = append(all, result{call: call, numbers: numbers, e: e})
	}
	add("Check", mark.Check(f))
	can, e := mark.Can(f, list)
	add("Can", e, truth(can))
	l, e := mark.Heights(f, list)
	add("Heights", e, l...)
	v, e := mark.Reason(f, x, y)
	add("Reason", e, v)
	v, e = mark.Count(f)
	add("Count", e, v)
	r, e := mark.Horses(f)
	add("Horses", e, r.From, r.To)
	l, v, e = mark.Fewest(f)
	add("Fewest", e, append(slices.Clone(l), v)...)
	v, e = mark.Same(f, x, y)
	add("Same", e, v)
	l, e = mark.Groups(f)
	add("Groups", e, l...)
	v, e = mark.Alone(f, x)
	add("Alone", e, v)
	l, e = mark.Through(f, x, y)
	add("Through", e, l...)
	l, e = mark.Wrong(f)
	add("Wrong", e, l...)
	a, b, v, e := mark.Next(f)
	add("Next", e, a, b, v)
	more, e := mark.Add(f, n)
	return append(all, result{call: "Add", fair: more, e: e})
}

// everything returns all that can be asked of a fair, but for Add, which gives its hours back.
func everything(f api.Fair) []int {
	var all []int
	take := func(list []result) {
		for _, r := range list[:len(list)-1] {
			all = append(all, len(r.numbers), int(r.e))
			all = append(all, r.numbers...)
		}
	}
	for _, l := range parts(len(f.Entries)) {
		take(calls(f, l, 0, 0, api.Entry{}))
	}
	for x := range f.Entries {
		for y := range f.Entries {
			take(calls(f, nil, x, y, api.Entry{}))
		}
	}
	return all
}

func TestErrorsComeAloneAndInOrder(t *testing.T) { // R1, R3, P1.1
	bad := badFairs()
	for _, x := range badEntries() {
		bad = append(bad, checked{x.name, withEntries(x.n), x.want})
	}
	for _, x := range bad {
		for _, r := range calls(x.f, []int{9, 8}, 9, -1, entry(-1, 0, 0, 0, 0)) {
			if r.e != x.want || !r.zero() {
				t.Errorf("%s: %s: %v", x.name, r.call, r)
			}
		}
	}
	// The entries come before there being no way, a list's error, too.
	want := map[string]api.Errno{
		"Can": api.ErrTurn, "Heights": api.ErrTurn, "Reason": api.ErrNobody, "Same": api.ErrNobody, "Alone": api.ErrNobody, "Through": api.ErrNobody,
		"Horses": api.ErrVoid, "Fewest": api.ErrVoid, "Groups": api.ErrVoid, "Next": api.ErrVoid, "Add": api.ErrFigure,
	}
	for _, r := range calls(exampleU(), []int{1, 0, 9}, 4, 0, entry(-1, 9, 9, 99, 9)) {
		if r.e != want[r.call] || r.e != api.OK && !r.zero() {
			t.Errorf("%s: %v", r.call, r)
		}
	}
}

func TestNothingIsKept(t *testing.T) { // R2, R6
	list := fairs(60, api.MaxEntries)
	ask := func(f api.Fair) []result { return calls(f, []int{0, 2}, 0, 1, entry(9, 0, 0, 15, 1)) }
	first := make([][]result, len(list))
	for i, f := range list {
		first[i] = ask(f)
	}
	var wait sync.WaitGroup
	for i, f := range slices.Backward(list) {
		wait.Add(1)
		go func() {
			defer wait.Done()
			if again := ask(f); !reflect.DeepEqual(again, first[i]) {
				t.Errorf("fair %d: %v, then %v", i, first[i], again)
			}
		}()
	}
	wait.Wait()
}

func copyFair(f api.Fair) api.Fair {
	roads, entries := f.Roads, f.Entries
	f.Roads, f.Entries = nil, nil
	for _, l := range roads {
		f.Roads = append(f.Roads, append([]int{}, l...))
	}
	for _, n := range entries {
		n.Marks = append([]int{}, n.Marks...)
		f.Entries = append(f.Entries, n)
	}
	return f
}

func spoil(list []int) {
	list = list[:cap(list)]
	for i := range list {
		list[i] = -99
	}
}

func TestNoArgumentIsChanged(t *testing.T) { // R4
	for i, f := range append(fairs(60, api.MaxEntries), exampleS(), exampleT(), exampleU()) {
		before := copyFair(f)
		list, n := []int{0, 1}, entry(20, 0, 0, 15, 1, 0, 3)
		calls(f, list, 0, 1, n)
		if !sameFair(f, before) || !slices.Equal(list, []int{0, 1}) || !slices.Equal(n.Marks, []int{0, 3}) {
			t.Errorf("fair %d is changed", i)
		}
	}
}

func TestNoMemoryIsShared(t *testing.T) { // R4
	f := exampleS()
	f.Entries = append(make([]api.Entry, 0, 9), f.Entries...) // there is room for one more behind them
	before, list := copyFair(f), []int{0, 1}
	for _, get := range []func() ([]int, api.Errno){
		func() ([]int, api.Errno) { return mark.Heights(f, list) },
		func() ([]int, api.Errno) { return mark.Groups(f) },
		func() ([]int, api.Errno) { return mark.Through(f, 0, 1) },
		func() ([]int, api.Errno) { return mark.Wrong(change(f, func(f *api.Fair) { f.Most = 1 })) },
		func() ([]int, api.Errno) { way, _, e := mark.Fewest(f); return way, e },
	} {
		a, _ := get()
		b, e := get()
		want := slices.Clone(b)
		spoil(a)
		c, _ := get()
		if e != api.OK || len(a) == 0 || !slices.Equal(b, want) || !slices.Equal(c, want) || !slices.Equal(list, []int{0, 1}) || !sameFair(f, before) {
			t.Errorf("%v: %v %v %v", e, a, b, c)
		}
	}
	n := exampleT().Entries[4]
	more, _ := mark.Add(f, n)
	other, _ := mark.Add(f, n)
	want := copyFair(other)
	for _, l := range more.Roads {
		spoil(l)
	}
	for i := range more.Entries {
		spoil(more.Entries[i].Marks)
		more.Entries[i].Hour = -99
	}
	spoil(n.Marks)
	if behind := f.Entries[:5]; !sameFair(f, before) || !sameFair(other, want) || behind[4].Hour != 0 {
		t.Error("Add shares memory")
	}
}

func TestNilIsEmpty(t *testing.T) { // R4
	a := api.Fair{Roads: [][]int{{0}}, Dye: 1, Most: 1}
	b := change(a, func(f *api.Fair) { f.Entries = []api.Entry{} })
	for i, r := range calls(a, nil, 0, 0, entry(0, 0, 0, 0, 0)) {
		n := entry(0, 0, 0, 0, 0)
		n.Marks = []int{}
		if q := calls(b, []int{}, 0, 0, n)[i]; q.e != r.e || !slices.Equal(q.numbers, r.numbers) || !sameFair(q.fair, r.fair) {
			t.Errorf("%v and %v", r, q)
		}
	}
	c, d := withEntries(entry(1, 0, 0, 9, 0), entry(1, 0, 0, 9, 0)), withEntries(entry(1, 0, 0, 9, 0), entry(1, 0, 0, 9, 0))
	c.Entries[0].Marks, d.Entries[1].Marks = []int{}, []int{}
	if !slices.Equal(everything(c), everything(d)) {
		t.Error("marks that are nil or empty")
	}
}

func TestAnyArgument(t *testing.T) { // P1, R5
	d := dice(5)
	odd := []int{math.MinInt, math.MaxInt, math.MinInt + 1, -1, 0, 1, 2, 3, 7, 8, 31, 64, 255, 1 << 32}
	any := func() int { return odd[d.roll(len(odd))] }
	some := func(n int) []int {
		l := make([]int, n)
		for i := range l {
			l[i] = any()
		}
		return l
	}
	for range 3000 {
		f := d.fair(d.roll(8))
		n := d.entry(len(f.Roads), api.MaxHour)
		for range d.roll(3) {
			switch d.roll(9) {
			case 0:
				f.Roads = [][]int{some(d.roll(4)), some(2), nil}[:d.roll(4)]
			case 1:
				f.Shoe = api.Range{From: any(), To: any()}
			case 2:
				f.Dye = any()
			case 3:
				f.Most = any()
			case 4, 5, 6:
				m := api.Entry{Hour: any(), Place: any(), Coat: any(), Marks: some(d.roll(3)), Height: any(), Shod: any()}
				f.Entries = append(f.Entries, m)
			case 7:
				n = api.Entry{Hour: any(), Place: any(), Coat: any(), Marks: some(d.roll(3)), Height: any(), Shod: any()}
			case 8:
				f = api.Fair{}
			}
		}
		for _, r := range calls(f, some(d.roll(4)), any(), any(), n) {
			if r.e != api.OK && !r.zero() {
				t.Fatalf("%s of %v: %v", r.call, f, r)
			}
		}
	}
}
