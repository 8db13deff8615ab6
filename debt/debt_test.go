package debt_test

import (
	"slices"
	"testing"

	"palfrey/api"
	"palfrey/debt"
)

type (
	ints  = []int
	rows  = [][]int
	debts = []api.Debt
)

// of returns debts, or payments: From, To and Pounds of each.
func of(l ...int) debts {
	var list debts
	for i := 0; i < len(l); i += 3 {
		list = append(list, api.Debt{From: l[i], To: l[i+1], Pounds: l[i+2]})
	}
	return list
}

func owing(purses rows, l ...int) api.Owing { return api.Owing{Purses: purses, Debts: of(l...)} }

// without is an owing of so many persons without coins.
func without(people int, l ...int) api.Owing { return owing(make(rows, people), l...) }

// exampleS is the owing S of the chapter's examples.
func exampleS() api.Owing {
	return owing(rows{{1, 2, 3}, nil, {3}, {1}}, 0, 1, 5, 1, 2, 5, 2, 3, 2, 0, 3, 1, 3, 1, 1)
}

func exampleT() api.Owing { return change(exampleS(), func(o *api.Owing) { o.Purses[0] = ints{5, 1} }) }

func exampleU() api.Owing { return change(exampleS(), func(o *api.Owing) { o.Purses[0] = nil }) }

func exampleP() debts { return of(0, 1, 1, 0, 2, 3, 0, 3, 2) }

func change(o api.Owing, how func(o *api.Owing)) api.Owing {
	how(&o)
	return o
}

// full is an owing with as many persons, coins and debts as there can be.
func full() api.Owing {
	return owing(rows{{9, 9, 9}, {9, 8, 7}, {1, 2, 3}, {4, 5, 6}, {7, 8, 9}}, 0, 1, 9, 0, 2, 9, 0, 3, 9, 0, 4, 9, 1, 2, 9, 1, 3, 9, 1, 4, 9, 2, 3, 9)
}

// then returns the owing with the debts behind its own ones.
func then(o api.Owing, l ...int) api.Owing {
	o.Debts = slices.Concat(o.Debts, of(l...))
	return o
}

func sameOwing(a, b api.Owing) bool {
	return slices.EqualFunc(a.Purses, b.Purses, slices.Equal[ints]) && slices.Equal(a.Debts, b.Debts)
}

type checked struct {
	name string
	o    api.Owing
	want api.Errno
}

// with is S with a change. Most changes make something wrong, too, that is checked later.
func with(name string, want api.Errno, how func(o *api.Owing)) checked {
	return checked{name, change(exampleS(), how), want}
}

func badPurses() []checked {
	return []checked{
		with("no purses", api.ErrUnder, func(o *api.Owing) { o.Purses = nil }),
		with("one purse of four coins", api.ErrUnder, func(o *api.Owing) { o.Purses = rows{{0, 0, 0, 0}} }),
		with("six purses", api.ErrOver, func(o *api.Owing) { o.Purses = make(rows, 6) }),
		with("six purses, the first one with a wrong coin", api.ErrOver, func(o *api.Owing) { o.Purses = rows{{0}, nil, nil, nil, nil, nil} }),
		with("four coins, all wrong", api.ErrOver, func(o *api.Owing) { o.Purses[0] = ints{0, 10, -1, 0} }),
		with("four coins", api.ErrOver, func(o *api.Owing) { o.Purses[3] = ints{1, 1, 1, 1} }),
		with("four coins, and a wrong coin later", api.ErrOver, func(o *api.Owing) { o.Purses[1], o.Purses[2] = ints{1, 2, 3, 4}, ints{0} }),
		with("a wrong coin, and four coins later", api.ErrFigure, func(o *api.Owing) { o.Purses[1], o.Purses[2] = ints{0}, ints{1, 2, 3, 4} }),
		with("a coin of 10 pounds, nine debts", api.ErrFigure, func(o *api.Owing) { o.Purses[2], o.Debts = ints{1, 2, 10}, make(debts, 9) }),
		with("a coin of 0 pounds, a debt of nobody", api.ErrFigure, func(o *api.Owing) { o.Purses[3], o.Debts = ints{0, 1}, of(9, 9, 9) }),
		with("a coin of -1 pounds", api.ErrFigure, func(o *api.Owing) { o.Purses[0] = ints{1, -1} }),
	}
}

func badDebts() []checked {
	return []checked{
		with("nine debts, all wrong", api.ErrOver, func(o *api.Owing) { o.Debts = slices.Repeat(of(9, 9, 0), 9) }),
		with("nine debts, all right", api.ErrOver, func(o *api.Owing) { o.Debts = slices.Repeat(of(0, 1, 1), 9) }),
		with("an error of an earlier debt", api.ErrFigure, func(o *api.Owing) { o.Debts[1].Pounds, o.Debts[2].From = 0, 9 }),
		with("an error of a later debt", api.ErrNobody, func(o *api.Owing) { o.Debts[1].From, o.Debts[2].Pounds = 9, 0 }),
		with("debts of a person that there is no more", api.ErrNobody, func(o *api.Owing) { o.Purses = o.Purses[:3] }),
	}
}

// refused is debts that are not valid with four persons.
func refused() []struct {
	d    api.Debt
	want api.Errno
} {
	return []struct {
		d    api.Debt
		want api.Errno
	}{
		{api.Debt{From: 4, To: 4}, api.ErrNobody}, {api.Debt{From: -1, To: -1}, api.ErrNobody}, {api.Debt{From: 4, To: 0, Pounds: 1}, api.ErrNobody},
		{api.Debt{From: 0, To: 4, Pounds: 1}, api.ErrNobody}, {api.Debt{From: 0, To: -1, Pounds: 99}, api.ErrNobody}, {api.Debt{From: -1, To: 3, Pounds: 0}, api.ErrNobody},
		{api.Debt{From: 2, To: 2}, api.ErrClass}, {api.Debt{From: 0, To: 0, Pounds: 1}, api.ErrClass}, {api.Debt{From: 3, To: 3, Pounds: 99}, api.ErrClass},
		{api.Debt{From: 0, To: 1}, api.ErrFigure}, {api.Debt{From: 0, To: 1, Pounds: -1}, api.ErrFigure}, {api.Debt{From: 3, To: 0, Pounds: -9}, api.ErrFigure},
		{api.Debt{From: 0, To: 1, Pounds: 73}, api.ErrFigure}, {api.Debt{From: 2, To: 3, Pounds: 1 << 40}, api.ErrFigure},
	}
}

// allBad is all owings that are not valid.
func allBad() []checked {
	all := append(badPurses(), badDebts()...)
	list := refused()
	for n := range 4 {
		list = append(list, struct {
			d    api.Debt
			want api.Errno
		}{api.Debt{From: n, To: (n + 1) % 4, Pounds: api.MaxDebt + 1}, api.ErrFigure})
	}
	for _, x := range list {
		all = append(all, checked{"a debt", then(exampleS(), x.d.From, x.d.To, x.d.Pounds, 9, 9, 9), x.want})
		all = append(all, checked{"the first debt", without(4, x.d.From, x.d.To, x.d.Pounds), x.want})
	}
	return all
}

func TestCheckReturnsTheFirstError(t *testing.T) { // P5.1
	for i, good := range []api.Owing{
		exampleS(), exampleT(), exampleU(), full(), without(2), without(5), owing(rows{{1, 1, 1}, {9, 9, 9}}), without(2, 0, 1, 1, 1, 0, 9),
		without(5, 4, 0, 9, 0, 4, 9), {Purses: make(rows, 3), Debts: slices.Repeat(of(2, 1, 9), 8)},
	} {
		if e := debt.Check(good); e != api.OK {
			t.Errorf("good owing %d: %v", i, e)
		}
	}
	for _, x := range allBad() {
		if e := debt.Check(x.o); e != x.want {
			t.Errorf("%s: %v: %v, not %v", x.name, x.o, e, x.want)
		}
	}
	for i, o := range owings(400) {
		if e := debt.Check(o); e != api.OK {
			t.Errorf("owing %d: %v: %v", i, o, e)
		}
	}
}

func TestNetAndMerge(t *testing.T) { // P5.1
	for _, x := range []struct {
		o     api.Owing
		net   ints
		merge debts
	}{
		{exampleS(), ints{-6, 1, 3, 2}, of(0, 1, 5, 0, 3, 1, 1, 2, 5, 2, 3, 2, 3, 1, 1)},
		{then(exampleS(), 1, 0, 7), ints{1, -6, 3, 2}, of(0, 3, 1, 1, 0, 2, 1, 2, 5, 2, 3, 2, 3, 1, 1)},
		{without(2), ints{0, 0}, nil},
		{without(5), ints{0, 0, 0, 0, 0}, nil},
		{without(2, 0, 1, 3, 1, 0, 3), ints{0, 0}, nil},
		{without(2, 0, 1, 3, 1, 0, 2, 1, 0, 2), ints{1, -1}, of(1, 0, 1)},
		{without(3, 2, 1, 9, 2, 1, 9, 1, 2, 1, 2, 0, 4), ints{4, 17, -21}, of(2, 0, 4, 2, 1, 17)},
		{without(5, 4, 3, 1, 4, 0, 1, 2, 4, 1), ints{1, 0, -1, 1, -1}, of(2, 4, 1, 4, 0, 1, 4, 3, 1)},
		{api.Owing{Purses: make(rows, 2), Debts: slices.Repeat(of(1, 0, 9), 8)}, ints{72, -72}, of(1, 0, 72)},
		{full(), ints{-36, -18, 9, 27, 18}, full().Debts},
	} {
		if l := must[[]int](t)(debt.Net(x.o)); !slices.Equal(l, x.net) {
			t.Errorf("Net of %v: %v, not %v", x.o, l, x.net)
		}
		if l := must[debts](t)(debt.Merge(x.o)); !slices.Equal(l, x.merge) {
			t.Errorf("Merge of %v: %v, not %v", x.o, l, x.merge)
		}
	}
	for i, o := range owings(800) {
		if l := must[[]int](t)(debt.Net(o)); !slices.Equal(l, modelNets(o)) {
			t.Errorf("owing %d: Net of %v: %v, not %v", i, o, l, modelNets(o))
		}
		if l := must[debts](t)(debt.Merge(o)); !slices.Equal(l, modelMerge(o)) {
			t.Errorf("owing %d: Merge of %v: %v, not %v", i, o, l, modelMerge(o))
		}
	}
}

func TestCircle(t *testing.T) { // P5.2
	for _, x := range []struct {
		o    api.Owing
		want ints
		e    api.Errno
	}{
		{exampleS(), ints{1, 2, 3}, api.OK},
		{change(exampleS(), func(o *api.Owing) { o.Debts = o.Debts[:4] }), nil, api.ErrVoid},
		{without(2), nil, api.ErrVoid},
		{without(2, 0, 1, 1, 0, 1, 2), nil, api.ErrVoid},
		{without(2, 1, 0, 1, 0, 1, 9), ints{0, 1}, api.OK},
		{without(5, 4, 3, 1, 3, 4, 1, 0, 1, 1, 1, 2, 1, 2, 0, 1), ints{3, 4}, api.OK},
		{without(5, 3, 4, 1, 4, 3, 1, 2, 1, 1, 1, 2, 1), ints{1, 2}, api.OK},
		{without(5, 0, 4, 1, 4, 2, 1, 2, 1, 1, 1, 3, 1, 3, 0, 1), ints{0, 4, 2, 1, 3}, api.OK},
		{without(4, 0, 1, 1, 1, 2, 1, 2, 3, 1, 3, 0, 1, 3, 1, 1), ints{1, 2, 3}, api.OK},
		{without(4, 0, 2, 1, 2, 1, 1, 1, 0, 1, 0, 1, 1), ints{0, 1}, api.OK},
		{without(5, 4, 2, 1, 2, 3, 1, 3, 1, 1, 1, 4, 1, 0, 1, 1), ints{1, 4, 2, 3}, api.OK},
		{without(4, 0, 3, 1, 3, 1, 1, 1, 0, 1, 0, 2, 1, 2, 1, 1), ints{0, 2, 1}, api.OK},
	} {
		if l, e := debt.Circle(x.o); e != x.e || !slices.Equal(l, x.want) {
			t.Errorf("Circle of %v: %v %v, not %v %v", x.o, l, e, x.want, x.e)
		}
	}
	found := met{}
	for i, o := range owings(800) {
		want, due := ints(nil), api.ErrVoid
		if all := modelCircles(o); len(all) > 0 {
			want, due = all[0], api.OK
			if len(all[len(all)-1]) > len(want) {
				found["a longer one"]++
			}
			if slices.ContainsFunc(all, func(l []int) bool { return len(l) == len(want) && !slices.Contains(l, want[0]) }) {
				found["another one as short"]++
			}
		}
		if l, e := debt.Circle(o); e != due || !slices.Equal(l, want) {
			t.Errorf("owing %d: Circle of %v: %v %v, not %v %v", i, o, l, e, want, due)
		}
		found[[]string{"none", "", "two", "three", "four", "five"}[len(want)]]++
	}
	found.need(t, "none", "two", "three", "a longer one", "another one as short")
}

func TestGroups(t *testing.T) { // P5.3
	for _, x := range []struct {
		o    api.Owing
		want ints
	}{
		{exampleS(), ints{0, 0, 0, 0}},
		{without(4, 0, 1, 9, 1, 0, 9), ints{0, 1, 2, 3}},
		{without(2), ints{0, 1}},
		{without(2, 1, 0, 3), ints{0, 0}},
		{without(5), ints{0, 1, 2, 3, 4}},
		{without(4, 0, 1, 3, 2, 3, 3), ints{0, 0, 1, 1}},
		{without(4, 0, 1, 3, 3, 2, 3), ints{0, 0, 1, 1}},
		{without(4, 0, 2, 3, 1, 3, 3), ints{0, 1, 0, 1}},
		{without(4, 1, 0, 3, 2, 3, 2), ints{0, 0, 1, 1}},
		{without(3, 0, 2, 1), ints{0, 1, 0}},
		{without(5, 0, 1, 1, 0, 2, 2, 4, 3, 4), ints{0, 0, 0, 1, 1}},
		{without(5, 0, 4, 1, 2, 3, 2), ints{0, 1, 2, 2, 0}},
		{without(5, 0, 1, 1, 0, 2, 1, 4, 3, 2), ints{0, 0, 0, 1, 1}},
		{without(5, 0, 3, 2, 4, 1, 1, 4, 2, 1), ints{0, 0, 0, 1, 1}},
		{without(5, 0, 1, 9, 0, 2, 1, 0, 3, 1, 0, 4, 1), ints{0, 0, 0, 0, 0}},
	} {
		if l := must[[]int](t)(debt.Groups(x.o)); !slices.Equal(l, x.want) {
			t.Errorf("Groups of %v: %v, not %v", x.o, l, x.want)
		}
	}
}

func TestRight(t *testing.T) { // P5.4
	long := slices.Concat(of(0, 1, 1, 0, 2, 1, 0, 3, 1, 1, 2, 1, 1, 3, 1, 2, 3, 1), of(9, 9, 9, 9, 9, 9, 9, 9, 9))
	// With five persons there can be more pairs than payments.
	many := of(0, 1, 1, 0, 2, 1, 0, 3, 1, 0, 4, 1, 1, 2, 1, 1, 3, 1, 1, 4, 1, 2, 3, 1, 2, 4, 1)
	rich := api.Owing{Purses: make(rows, 2), Debts: slices.Repeat(of(1, 0, 9), 8)}
	type asked struct {
		o    api.Owing
		pays debts
		want api.Errno
	}
	list := []asked{
		{exampleS(), exampleP(), api.OK}, {exampleS(), nil, api.ErrFalse}, {exampleS(), append(exampleP(), of(1, 0, 1)...), api.ErrTwin},
		{exampleS(), append(exampleP(), of(1, 1, 1)...), api.ErrClass}, {exampleU(), exampleP(), api.OK}, {exampleS(), append(exampleP(), of(0, 1, 1)...), api.ErrTwin},
		{exampleS(), of(0, 3, 2, 0, 1, 1, 0, 2, 3), api.OK}, {exampleS(), of(3, 1, 1, 0, 2, 6, 2, 3, 3), api.OK}, {exampleS(), of(0, 1, 1, 0, 2, 3, 0, 3, 1), api.ErrFalse},
		{exampleS(), of(1, 0, 1, 2, 0, 3, 3, 0, 2), api.ErrFalse}, {exampleS(), of(0, 1, 1, 0, 2, 4, 2, 3, 1, 0, 3, 1), api.OK}, {exampleS(), long, api.ErrOver},
		{exampleS(), long[:8], api.ErrNobody}, {exampleS(), long[:6], api.ErrFalse}, {exampleS(), of(0, 1, 73), api.ErrFigure}, {exampleS(), of(0, 1, 72), api.ErrFalse},
		{exampleS(), of(0, 1, 0, 1, 0, 1), api.ErrFigure}, {exampleS(), of(0, 1, 1, 1, 0, 0), api.ErrFigure}, {exampleS(), of(0, 1, 1, 1, 0, 1, 2, 2, 1), api.ErrTwin},
		{without(2), nil, api.OK}, {without(2), of(0, 1, 1), api.ErrFalse}, {without(2), of(0, 1, 1, 1, 0, 1), api.ErrTwin}, {rich, of(1, 0, 72), api.OK},
		{without(3), of(0, 1, 72, 1, 2, 72, 2, 0, 72), api.OK}, {without(3), of(0, 1, 73, 1, 2, 73, 2, 0, 73), api.ErrFigure},
		{without(5, 0, 1, 1, 0, 2, 1, 0, 3, 1, 0, 4, 1, 1, 2, 1, 1, 3, 1, 1, 4, 1, 2, 3, 1), many[:8], api.OK}, {without(5), many, api.ErrOver}, {without(5), many[:8], api.ErrFalse},
	}
	for _, x := range refused() {
		list = append(list, asked{exampleS(), append(debts{x.d}, exampleP()...), x.want}, asked{exampleS(), append(exampleP(), x.d, api.Debt{From: 9}), x.want})
	}
	for _, x := range list {
		if e := debt.Right(x.o, x.pays); e != x.want {
			t.Errorf("Right of %v, %v: %v, not %v", x.o, x.pays, e, x.want)
		}
		if e := modelRight(x.o, x.pays); e != x.want {
			t.Errorf("the model says %v of %v, %v, not %v", e, x.o, x.pays, x.want)
		}
	}
}

func TestFewestAndCount(t *testing.T) { // P5.4
	for _, x := range []struct {
		o    api.Owing
		want debts
		many int
	}{
		{exampleS(), exampleP(), 16},
		{without(2), nil, 1},
		{without(5, 0, 1, 9, 1, 0, 9), nil, 1},
		{without(2, 1, 0, 3), of(1, 0, 3), 1},
		{without(2, 1, 0, 9, 1, 0, 9, 0, 1, 1), of(1, 0, 17), 1},
		{without(3, 2, 0, 5), of(2, 0, 5), 1},
		{without(3, 0, 1, 4, 1, 2, 1), of(0, 1, 3, 0, 2, 1), 3},
		{without(3, 0, 2, 4, 1, 2, 1), of(0, 1, 4, 1, 2, 5), 3},
		{without(4, 0, 1, 3, 2, 3, 3), of(0, 1, 3, 2, 3, 3), 2},
		{without(4, 3, 2, 3, 1, 0, 3), of(1, 0, 3, 3, 2, 3), 2},
		{without(5, 0, 1, 9, 0, 2, 1, 0, 3, 1, 0, 4, 1), of(0, 1, 9, 0, 2, 1, 0, 3, 1, 0, 4, 1), 125},
		{without(5, 1, 0, 1, 2, 0, 2, 4, 3, 4), of(1, 0, 1, 2, 0, 2, 4, 3, 4), 3},
	} {
		if l := must[debts](t)(debt.Fewest(x.o)); !slices.Equal(l, x.want) {
			t.Errorf("Fewest of %v: %v, not %v", x.o, l, x.want)
		}
		if n := must[int](t)(debt.Count(x.o)); n != x.many {
			t.Errorf("Count of %v: %d, not %d", x.o, n, x.many)
		}
	}
}

func TestVerdictAndApart(t *testing.T) { // P5.5
	three := without(3, 0, 1, 4, 1, 2, 1)
	two := without(4, 0, 1, 3, 2, 3, 3)
	for _, x := range []struct {
		o    api.Owing
		x, y int
		v    int
		n    int
		e    api.Errno
	}{
		{exampleS(), 0, 1, api.MayBe, 3, api.OK}, {exampleS(), 1, 0, api.Never, 3, api.OK}, {exampleS(), 1, 2, api.MayBe, 3, api.OK}, {exampleS(), 2, 1, api.MayBe, 3, api.OK},
		{three, 0, 1, api.MayBe, 2, api.OK}, {three, 1, 0, api.Never, 2, api.OK}, {three, 2, 1, api.MayBe, 2, api.OK}, {two, 0, 1, api.MayBe, 2, api.OK},
		{two, 0, 2, api.Never, 2, api.OK}, {two, 0, 3, api.MayBe, 2, api.OK}, {two, 3, 0, api.Never, 2, api.OK}, {without(2), 0, 1, api.Never, 0, api.OK},
		{without(2, 1, 0, 3), 1, 0, api.Surely, 0, api.ErrVoid}, {without(2, 1, 0, 3), 0, 1, api.Never, 0, api.ErrVoid}, {without(3, 2, 0, 5), 2, 0, api.Surely, 2, api.OK},
		{without(3, 2, 0, 5), 0, 2, api.Never, 2, api.OK}, {without(3, 2, 0, 5), 1, 0, api.Never, 1, api.OK}, {without(5, 4, 3, 5, 1, 0, 2), 4, 3, api.Surely, 3, api.OK},
		{without(5, 4, 3, 5, 1, 0, 2), 3, 4, api.Never, 3, api.OK}, {without(5, 4, 3, 5, 1, 0, 2), 2, 4, api.Never, 2, api.OK},
	} {
		if v := must[int](t)(debt.Verdict(x.o, x.x, x.y)); v != x.v {
			t.Errorf("Verdict of %v, %d, %d: %d, not %d", x.o, x.x, x.y, v, x.v)
		}
		if n, e := debt.Apart(x.o, x.x, x.y); n != x.n || e != x.e {
			t.Errorf("Apart of %v, %d, %d: %d %v, not %d %v", x.o, x.x, x.y, n, e, x.n, x.e)
		}
	}
	for _, x := range []struct {
		x, y int
		want api.Errno
	}{{2, 2, api.ErrClass}, {0, 0, api.ErrClass}, {4, 4, api.ErrNobody}, {-1, -1, api.ErrNobody}, {0, 4, api.ErrNobody}, {4, 0, api.ErrNobody}, {-1, 0, api.ErrNobody}, {3, -1, api.ErrNobody}} {
		v, e := debt.Verdict(exampleS(), x.x, x.y)
		n, f := debt.Apart(exampleS(), x.x, x.y)
		if v != 0 || n != 0 || e != x.want || f != x.want {
			t.Errorf("Verdict and Apart of %d, %d: %d %v, %d %v, not %v", x.x, x.y, v, e, n, f, x.want)
		}
	}
}

func TestPoor(t *testing.T) { // P5.6
	for _, x := range []struct {
		o    api.Owing
		want ints
	}{
		{exampleS(), nil}, {exampleT(), nil}, {exampleU(), ints{0}}, {without(2), nil}, {without(3, 2, 0, 1, 1, 0, 1), ints{1, 2}},
		{owing(rows{{3, 2}, nil}, 0, 1, 5), nil}, {owing(rows{{3, 1}, nil}, 0, 1, 5), ints{0}}, {owing(rows{{9}, {9}}, 0, 1, 5), nil},
		{owing(rows{nil, nil, {1}}, 0, 1, 5, 2, 0, 5), ints{2}}, {full(), ints{0}},
	} {
		if l := must[[]int](t)(debt.Poor(x.o)); !slices.Equal(l, x.want) {
			t.Errorf("Poor of %v: %v, not %v", x.o, l, x.want)
		}
	}
	found := met{}
	for i, o := range owings(800) {
		l := must[[]int](t)(debt.Poor(o))
		if !slices.Equal(l, modelPoor(o)) {
			t.Errorf("owing %d: Poor of %v: %v, not %v", i, o, l, modelPoor(o))
		}
		found[[]string{"none", "one", "more"}[min(len(l), 2)]]++
	}
	found.need(t, "none", "one", "more")
}

func TestOrder(t *testing.T) { // P5.6
	half := of(0, 1, 2, 1, 2, 1)
	for _, x := range []struct {
		o    api.Owing
		pays debts
		want ints
		e    api.Errno
	}{
		{exampleS(), exampleP(), ints{0, 1, 2}, api.OK}, {exampleT(), exampleP(), nil, api.ErrVoid}, {exampleU(), exampleP(), nil, api.ErrVoid}, {exampleS(), nil, nil, api.ErrFalse},
		{exampleT(), of(0, 2, 6, 2, 3, 3, 3, 1, 1), ints{0, 1, 2}, api.OK}, {exampleT(), of(3, 1, 1, 2, 3, 3, 0, 2, 6), ints{0, 1, 2}, api.OK},
		{without(2), nil, nil, api.OK}, {owing(rows{{9, 9, 9}, {9}}), nil, nil, api.OK},
		// Who has no coins at first waits until they are paid.
		{owing(rows{{2, 1, 1}, nil, nil}, 0, 1, 2, 1, 2, 1), of(1, 2, 1, 0, 1, 2), ints{1, 0}, api.OK},
		// The first payment has to be made with the smaller coins, so that the one who is paid can go on.
		{owing(rows{{2, 1, 1}, nil, nil}, 0, 1, 2, 1, 2, 1), half, ints{0, 1}, api.OK}, {owing(rows{{2, 2, 2}, nil, nil}, 0, 1, 2, 1, 2, 1), half, nil, api.ErrVoid},
		// The first payment has to be made with the greater coin, so that the payer can go on.
		{owing(rows{{1, 1, 2}, nil, nil}, 0, 1, 2, 0, 2, 1), of(0, 1, 2, 0, 2, 1), ints{0, 1}, api.OK},
		// One who pays too early has no coins left that fit.
		{owing(rows{{3, 2}, {1}, nil}, 0, 1, 2, 1, 2, 3), of(1, 2, 3, 0, 1, 2), ints{1, 0}, api.OK},
		// Payments that go round need a coin to begin with.
		{owing(rows{{2}, nil, nil}), of(1, 2, 2, 2, 0, 2, 0, 1, 2), ints{2, 0, 1}, api.OK}, {without(3), of(1, 2, 2, 2, 0, 2, 0, 1, 2), nil, api.ErrVoid},
		{owing(rows{{2}, {2}, {2}}), of(1, 2, 2, 2, 0, 2, 0, 1, 2), ints{0, 1, 2}, api.OK}, {owing(rows{{9, 9}, nil, {3, 6}}), of(1, 2, 9, 2, 0, 9, 0, 1, 9), ints{1, 2, 0}, api.OK},
		// With 3 3 as with 1 5 the person 1 has two coins, but only with these they can go on.
		{owing(rows{{1, 5, 3}, nil, {3}}, 0, 1, 3, 2, 1, 2), of(2, 0, 3, 0, 1, 6, 1, 2, 1), ints{0, 1, 2}, api.OK},
		// What goes round may leave all coins where they were, but other payments are left then.
		{owing(rows{{1, 2, 3}, nil, {7}, {5}, nil}, 2, 4, 7, 3, 1, 3), of(2, 4, 7, 0, 3, 6, 3, 4, 6, 4, 0, 6, 0, 1, 2, 1, 2, 2, 2, 0, 2, 3, 1, 3), ints{0, 4, 5, 6, 1, 2, 3, 7}, api.OK},
	} {
		if l, e := debt.Order(x.o, x.pays); e != x.e || !slices.Equal(l, x.want) {
			t.Errorf("Order of %v, %v: %v %v, not %v %v", x.o, x.pays, l, e, x.want, x.e)
		}
	}
	for _, x := range refused() {
		if l, e := debt.Order(exampleS(), append(exampleP(), x.d)); len(l) != 0 || e != x.want {
			t.Errorf("Order with %v: %v %v, not %v", x.d, l, e, x.want)
		}
	}
}

func TestOrderOfAnyPayments(t *testing.T) { // P5.6
	d := dice(56)
	found := met{}
	for i, s := range samples(1200) {
		pays := s.pays(&d)
		all := modelOrders(s.o, pays)
		want, due := modelOrder(s.o, pays)
		l, e := debt.Order(s.o, pays)
		if e != due || !slices.Equal(l, want) {
			t.Errorf("sample %d: Order of %v, %v: %v %v, not %v %v", i, s.o, pays, l, e, want, due)
		}
		found[e.Error()]++
		switch {
		case len(all) == 0 && len(modelPoor(s.o)) == 0:
			found["nobody is poor, and no order"]++
		case len(all) > 1:
			found["one of several orders"]++
		case len(all) == 1 && len(pays) > 2:
			found["the only order"]++
		}
		if len(all) > 0 && !slices.IsSorted(want) {
			found["not as given"]++
		}
	}
	found.need(t, api.OK.Error(), api.ErrVoid.Error(), "nobody is poor, and no order", "one of several orders", "the only order", "not as given")
}

func TestOrderOfManyPayments(t *testing.T) { // P5.6: as many as the debts are, each of which is paid
	d := dice(566)
	found := met{}
	for i := range 2000 {
		o := d.owing(3+i%3, 0, 3)
		for range 8 {
			x := d.debt(len(o.Purses), 3)
			if len(o.Debts) < 6 && !modelPays(o.Debts, x.From, x.To) && !modelPays(o.Debts, x.To, x.From) {
				o.Debts = append(o.Debts, x)
			}
		}
		want, due := modelOrder(o, o.Debts)
		l, e := debt.Order(o, o.Debts)
		if e != due || !slices.Equal(l, want) {
			t.Errorf("owing %d: Order of %v: %v %v, not %v %v", i, o, l, e, want, due)
		}
		if len(l) > 4 && !slices.IsSorted(l) {
			found["not as given"]++
		}
	}
	found.need(t, "not as given")
}

func TestExact(t *testing.T) { // P5.7
	three := func(purses ...ints) api.Owing { return owing(purses, 0, 1, 4, 1, 2, 1) }
	for _, x := range []struct {
		o     api.Owing
		pays  debts
		order ints
		e     api.Errno
	}{
		{exampleS(), exampleP(), ints{0, 1, 2}, api.OK}, {exampleT(), of(0, 2, 6, 2, 3, 3, 3, 1, 1), ints{0, 1, 2}, api.OK}, {exampleU(), nil, nil, api.ErrVoid},
		{without(2), nil, nil, api.OK}, {owing(rows{nil, {3}}, 1, 0, 3), of(1, 0, 3), ints{0}, api.OK}, {owing(rows{nil, {5}}, 1, 0, 3), nil, nil, api.ErrVoid},
		{three(ints{3, 1}, nil, nil), of(0, 1, 3, 0, 2, 1), ints{0, 1}, api.OK}, {three(ints{4}, ints{1}, ints{3}), of(0, 1, 4, 1, 2, 1), ints{0, 1}, api.OK},
		{three(ints{4}, nil, ints{3}), of(0, 2, 4, 2, 1, 3), ints{0, 1}, api.OK}, {three(ints{4}, nil, nil), nil, nil, api.ErrVoid},
		// The order is not always the one of the settlement.
		{owing(rows{nil, nil, {4}}, 2, 0, 4, 0, 1, 1), nil, nil, api.ErrVoid}, {owing(rows{{1}, nil, {4}}, 2, 0, 4, 0, 1, 1), of(0, 1, 1, 2, 0, 4), ints{0, 1}, api.OK},
		{owing(rows{nil, nil, {3, 1}}, 0, 1, 1, 2, 0, 1), of(2, 1, 1), ints{0}, api.OK}, {owing(rows{nil, {3}, {4}}, 0, 1, 1, 2, 0, 4), of(1, 0, 3, 2, 1, 4), ints{0, 1}, api.OK},
		{owing(rows{{3}, nil, {4}}, 2, 1, 4, 1, 0, 3), nil, nil, api.ErrVoid},
	} {
		if l, k, e := debt.Exact(x.o); e != x.e || !slices.Equal(l, x.pays) || !slices.Equal(k, x.order) {
			t.Errorf("Exact of %v: %v %v %v, not %v %v %v", x.o, l, k, e, x.pays, x.order, x.e)
		}
	}
	found := met{}
	for i, s := range samples(800) {
		pays, order, due := modelExact(s.o, s.fewest)
		l, k, e := debt.Exact(s.o)
		if e != due || !slices.Equal(l, pays) || !slices.Equal(k, order) {
			t.Errorf("sample %d: Exact of %v: %v %v %v, not %v %v %v", i, s.o, l, k, e, pays, order, due)
		}
		found[e.Error()]++
		if e == api.OK && !slices.Equal(l, s.fewest[0]) {
			found["not the first settlement"]++
		}
		if !slices.IsSorted(k) {
			found["not as they come"]++
		}
	}
	found.need(t, api.OK.Error(), api.ErrVoid.Error(), "not the first settlement", "not as they come")
}

func TestAdd(t *testing.T) { // P5.7
	for _, x := range []struct {
		o    api.Owing
		d    api.Debt
		want api.Errno
	}{
		{exampleS(), api.Debt{From: 2, To: 0, Pounds: 9}, api.OK}, {exampleS(), api.Debt{From: 4, To: 0, Pounds: 1}, api.ErrNobody}, {without(2), api.Debt{From: 1, To: 0, Pounds: 1}, api.OK},
		{exampleS(), api.Debt{From: 0, To: 1, Pounds: 5}, api.OK}, {exampleS(), api.Debt{From: 1, To: 0, Pounds: 10}, api.ErrFigure}, {full(), api.Debt{From: 0, To: 1, Pounds: 1}, api.ErrOver},
		{full(), api.Debt{From: 9, To: 9}, api.ErrOver}, {change(full(), func(o *api.Owing) { o.Debts = o.Debts[:7] }), api.Debt{From: 4, To: 3, Pounds: 1}, api.OK},
	} {
		want := api.Owing{}
		if x.want == api.OK {
			want = then(x.o, x.d.From, x.d.To, x.d.Pounds)
		}
		if o, e := debt.Add(x.o, x.d); e != x.want || !sameOwing(o, want) {
			t.Errorf("Add of %v, %v: %v %v, not %v %v", x.o, x.d, o, e, want, x.want)
		}
	}
	for _, x := range refused() {
		if o, e := debt.Add(exampleS(), x.d); e != x.want || !sameOwing(o, api.Owing{}) {
			t.Errorf("Add of %v: %v %v, not %v", x.d, o, e, x.want)
		}
	}
}
