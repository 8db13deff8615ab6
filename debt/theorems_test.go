package debt_test

import (
	"slices"
	"testing"

	"palfrey/api"
	"palfrey/bargain"
	"palfrey/debt"
)

// must returns what a call has returned, and makes an error of it that it should not have returned.
func must[T any](t *testing.T) func(v T, e api.Errno) T {
	return func(v T, e api.Errno) T {
		t.Helper()
		if e != api.OK {
			t.Errorf("%v", e)
		}
		return v
	}
}

// met makes sure that a test has met each of the cases that it is about.
type met map[string]int

func (m met) need(t *testing.T, cases ...string) {
	t.Helper()
	for _, c := range cases {
		if m[c] == 0 {
			t.Errorf("no sample was about: %s", c)
		}
	}
}

func nameOf(verdict int) string { return []string{"no verdict", "surely", "never", "maybe"}[verdict] }

// two is two persons who are not the same.
type two struct{ x, y int }

func twos(o api.Owing) []two {
	var list []two
	for x := range o.Purses {
		for y := range o.Purses {
			if x != y {
				list = append(list, two{x, y})
			}
		}
	}
	return list
}

func TestKept(t *testing.T) { // P5.8
	for i, o := range owings(800) {
		net := must[[]int](t)(debt.Net(o))
		if total(net) != 0 || len(net) != len(o.Purses) {
			t.Errorf("owing %d: Net of %v: %v", i, o, net)
		}
		pays := must[debts](t)(debt.Fewest(o))
		for p, n := range net {
			if got := modelNet(pays, p); got != n {
				t.Errorf("owing %d: Fewest of %v: %v, which pays %d to the person %d, and not %d", i, o, pays, got, p, n)
			}
		}
	}
	d := dice(58)
	found := met{}
	for i, s := range samples(400) {
		pays := s.pays(&d)
		if len(pays) > 0 && d.roll(2) == 0 {
			pays[d.roll(len(pays))].Pounds += 1 - 2*d.roll(2)
		}
		e := debt.Right(s.o, pays)
		if want := modelRight(s.o, pays); e != want {
			t.Errorf("sample %d: Right of %v, %v: %v, not %v", i, s.o, pays, e, want)
		}
		found[e.Error()]++
		for p, n := range must[[]int](t)(debt.Net(s.o)) {
			if e == api.OK && modelNet(pays, p) != n {
				t.Errorf("sample %d: Right of %v, %v, which do not pay %d to the person %d", i, s.o, pays, n, p)
			}
		}
	}
	found.need(t, api.OK.Error(), api.ErrFalse.Error())
}

// groupsOf returns how many groups Groups returns.
func groupsOf(t *testing.T, o api.Owing) int {
	t.Helper()
	return slices.Max(must[[]int](t)(debt.Groups(o))) + 1
}

func TestAsManyAsPersonsLessGroups(t *testing.T) { // P5.9
	found := met{}
	for i, o := range append(owings(800), exampleS(), full()) {
		pays := must[debts](t)(debt.Fewest(o))
		groups := groupsOf(t, o)
		if len(pays) != len(o.Purses)-groups {
			t.Errorf("owing %d: Fewest of %v: %v, with %d groups", i, o, pays, groups)
		}
		found[[]string{"", "one group", "two groups", "more groups"}[min(groups, 3)]]++
	}
	found.need(t, "one group", "two groups", "more groups")
}

func TestWhatAllSettlementsSay(t *testing.T) { // P5.10, P5.4, P5.5 and P0: exact over all settlements
	found := met{}
	for i, s := range samples(1200) {
		if l := must[debts](t)(debt.Fewest(s.o)); !slices.Equal(l, s.fewest[0]) {
			t.Errorf("sample %d: Fewest of %v: %v, not %v", i, s.o, l, s.fewest[0])
		}
		if n := must[int](t)(debt.Count(s.o)); n != len(s.fewest) {
			t.Errorf("sample %d: Count of %v: %d, not %d", i, s.o, n, len(s.fewest))
		}
		for _, p := range twos(s.o) {
			v := must[int](t)(debt.Verdict(s.o, p.x, p.y))
			if want := modelVerdict(s.fewest, p.x, p.y); v != want {
				t.Errorf("sample %d: Verdict of %v, %v: %d, not %d", i, s.o, p, v, want)
			}
			n, e := debt.Apart(s.o, p.x, p.y)
			if want, due := modelApart(s.all, p.x, p.y); n != want || e != due {
				t.Errorf("sample %d: Apart of %v, %v: %d %v, not %d %v", i, s.o, p, n, e, want, due)
			}
			found[nameOf(v)]++
			found["Apart "+e.Error()]++
		}
		if len(s.fewest[0]) > 0 && !slices.Equal(s.all[0], s.fewest[0]) {
			found["a settlement before the first one has more payments"]++
		}
		found[[]string{"", "one", "more"}[min(len(s.fewest), 2)]]++
	}
	found.need(t, "surely", "never", "maybe", "Apart "+api.OK.Error(), "Apart "+api.ErrVoid.Error(), "a settlement before the first one has more payments", "one", "more")
}

func TestManyPoundsAreNoOtherCase(t *testing.T) { // P5.10: which settlements there are does not depend on how many pounds one is
	d := dice(510)
	for i, s := range samples(400) {
		most := 0
		for _, x := range s.o.Debts {
			most = max(most, x.Pounds)
		}
		times := 1 + d.roll(api.MaxDebt/max(most, 1))
		o := change(s.o, func(o *api.Owing) { o.Debts = slices.Clone(o.Debts) })
		for n := range o.Debts {
			o.Debts[n].Pounds *= times
		}
		var want debts
		for _, p := range s.fewest[0] {
			want = append(want, api.Debt{From: p.From, To: p.To, Pounds: p.Pounds * times})
		}
		if l, n := must[debts](t)(debt.Fewest(o)), must[int](t)(debt.Count(o)); !slices.Equal(l, want) || n != len(s.fewest) {
			t.Errorf("sample %d: Fewest and Count of %v: %v %d, not %v %d", i, o, l, n, want, len(s.fewest))
		}
	}
}

// sameSettlements compares all that is said of settlements. The payments are settlements of a.
func sameSettlements(t *testing.T, a, b api.Owing, settlements []debts) {
	t.Helper()
	if l, m := must[[]int](t)(debt.Net(a)), must[[]int](t)(debt.Net(b)); !slices.Equal(l, m) {
		t.Errorf("Net of %v: %v, of %v: %v", a, l, b, m)
	}
	if l, m := must[[]int](t)(debt.Groups(a)), must[[]int](t)(debt.Groups(b)); !slices.Equal(l, m) {
		t.Errorf("Groups of %v: %v, of %v: %v", a, l, b, m)
	}
	if l, m := must[debts](t)(debt.Fewest(a)), must[debts](t)(debt.Fewest(b)); !slices.Equal(l, m) {
		t.Errorf("Fewest of %v: %v, of %v: %v", a, l, b, m)
	}
	if l, m := must[int](t)(debt.Count(a)), must[int](t)(debt.Count(b)); l != m {
		t.Errorf("Count of %v: %d, of %v: %d", a, l, b, m)
	}
	for _, p := range twos(a) {
		if v, w := must[int](t)(debt.Verdict(a, p.x, p.y)), must[int](t)(debt.Verdict(b, p.x, p.y)); v != w {
			t.Errorf("Verdict of %v, %v: %d, of %v: %d", a, p, v, b, w)
		}
		m, e := debt.Apart(a, p.x, p.y)
		if n, f := debt.Apart(b, p.x, p.y); m != n || e != f {
			t.Errorf("Apart of %v, %v: %d %v, of %v: %d %v", a, p, m, e, b, n, f)
		}
	}
	for _, pays := range settlements {
		if e := debt.Right(b, pays); e != api.OK {
			t.Errorf("Right of %v, %v: %v", b, pays, e)
		}
	}
}

// less returns the owing in which a debt of from to to is smaller by so many pounds, or no more there, and how many pounds it was.
func less(o api.Owing, from, to, pounds int) (api.Owing, int) {
	i := slices.IndexFunc(o.Debts, func(d api.Debt) bool { return d.From == from && d.To == to })
	was := o.Debts[i].Pounds
	o.Debts = slices.Clone(o.Debts)
	o.Debts[i].Pounds -= pounds
	o.Debts = slices.DeleteFunc(o.Debts, func(d api.Debt) bool { return d.Pounds == 0 })
	return o, was
}

func TestSmallerCircles(t *testing.T) { // P5.11
	d := dice(511)
	found := met{}
	for i, s := range samples(800) {
		round, e := debt.Circle(s.o)
		if e != api.OK {
			continue
		}
		least := api.MaxDebt
		for n, p := range round {
			_, was := less(s.o, p, round[(n+1)%len(round)], 0)
			least = min(least, was)
		}
		o, pounds := s.o, 1+d.roll(least)
		for n, p := range round {
			o, _ = less(o, p, round[(n+1)%len(round)], pounds)
		}
		sameSettlements(t, s.o, o, s.fewest)
		if _, e := debt.Circle(o); e == api.ErrVoid {
			found["no circle is left"]++
		}
		found[[]string{"smaller", "no more"}[len(s.o.Debts)-max(len(o.Debts), len(s.o.Debts)-1)]]++
		found[[]string{"", "", "of two", "of three", "of four", "of five"}[len(round)]]++
		if i%100 == 0 {
			sameSettlements(t, s.o, o, s.all)
		}
	}
	found.need(t, "no circle is left", "smaller", "no more", "of two", "of three")
}

func TestMerged(t *testing.T) { // P5.12
	found := met{}
	for i, s := range samples(800) {
		l := must[debts](t)(debt.Merge(s.o))
		for p, n := range must[[]int](t)(debt.Net(s.o)) {
			if modelNet(l, p) != n {
				t.Errorf("sample %d: Merge of %v: %v, which leaves %d to the person %d", i, s.o, l, modelNet(l, p), p)
			}
		}
		o := api.Owing{Purses: s.o.Purses, Debts: l}
		if debt.Check(o) != api.OK {
			found["too many pounds"]++
			continue
		}
		sameSettlements(t, s.o, o, s.fewest)
		round, e := debt.Circle(o)
		if e == api.OK && len(round) < 3 {
			t.Errorf("sample %d: Merge of %v: %v, Circle of this: %v", i, s.o, l, round)
		}
		if m := must[debts](t)(debt.Merge(o)); !slices.Equal(l, m) {
			t.Errorf("sample %d: Merge of %v: %v, of this: %v", i, s.o, l, m)
		}
		if before, f := debt.Circle(s.o); f == api.OK && len(before) == 2 {
			found["there was a circle of two"]++
		}
		found["a circle is left: "+e.Error()]++
	}
	found.need(t, "too many pounds", "there was a circle of two", "a circle is left: "+api.OK.Error(), "a circle is left: "+api.ErrVoid.Error())
}

func TestPassedOn(t *testing.T) { // P5.13
	d := dice(513)
	found := met{}
	for _, s := range samples(800) {
		if len(s.o.Debts) > api.MaxDebts-2 {
			continue
		}
		people := len(s.o.Purses)
		x, z, pounds := d.roll(people), d.roll(people), 1+d.roll(api.MaxDebt)
		y := d.roll(people)
		if y == x || y == z {
			continue
		}
		a, b := then(s.o, x, y, pounds, y, z, pounds), then(s.o, x, z, pounds)
		if x == z {
			b = s.o
			sameSettlements(t, a, b, s.fewest)
			found["nothing"]++
			continue
		}
		sameSettlements(t, a, b, []debts{must[debts](t)(debt.Fewest(a))})
		found["to another one"]++
	}
	found.need(t, "nothing", "to another one")
}

func TestNoPartsAreBetter(t *testing.T) { // P5.14, and P5.3
	found := met{}
	for i, o := range owings(800) {
		l, net := must[[]int](t)(debt.Groups(o)), must[[]int](t)(debt.Net(o))
		if want := modelGroups(o); !slices.Equal(l, want) {
			t.Errorf("owing %d: Groups of %v: %v, not %v", i, o, l, want)
		}
		if !modelBalanced(net, l) {
			t.Errorf("owing %d: Groups of %v: %v, with the nets %v", i, o, l, net)
		}
		for _, m := range modelParts(len(o.Purses)) {
			if !modelBalanced(net, m) {
				continue
			}
			if slices.Max(m) > slices.Max(l) || slices.Max(m) == slices.Max(l) && slices.Compare(m, l) < 0 {
				t.Errorf("owing %d: Groups of %v: %v, not %v", i, o, l, m)
			}
			if slices.Max(m) == slices.Max(l) && !slices.Equal(m, l) {
				found["another one with as many"]++
			}
			if slices.Max(m) < slices.Max(l) && slices.Compare(m, l) > 0 {
				found["a later one with fewer"]++
			}
			if slices.Max(m) < slices.Max(l) && slices.Compare(m, l) < 0 && slices.Max(m) > 0 {
				found["an earlier one with fewer"]++
			}
		}
	}
	found.need(t, "another one with as many", "a later one with fewer", "an earlier one with fewer")
}

// sameCoins tells that nobody pays more than they have, and that all have their nets more at the end.
func sameCoins(t *testing.T, o api.Owing, pays debts, order []int) {
	t.Helper()
	var has, want []int
	for p, coins := range o.Purses {
		has, want = append(has, total(coins)), append(want, total(coins)+modelNet(o.Debts, p))
	}
	before := total(has)
	for _, p := range inOrder(pays, order) {
		if has[p.From] < p.Pounds {
			t.Errorf("%v, %v in the order %v: %v is more than %d", o, pays, order, p, has[p.From])
		}
		has[p.From] -= p.Pounds
		has[p.To] += p.Pounds
	}
	if !slices.Equal(has, want) || total(has) != before {
		t.Errorf("%v, %v in the order %v: all have %v, not %v", o, pays, order, has, want)
	}
	if !modelMade(o.Purses, inOrder(pays, order)) {
		t.Errorf("%v, %v cannot be made in the order %v", o, pays, order)
	}
	sorted := slices.Sorted(slices.Values(order))
	for i, n := range sorted {
		if i != n || len(sorted) != len(pays) {
			t.Errorf("%v is no order of %v", order, pays)
		}
	}
}

func TestNoPoundIsLost(t *testing.T) { // P5.15
	d := dice(515)
	found := met{}
	for _, s := range samples(800) {
		pays := s.pays(&d)
		if order, e := debt.Order(s.o, pays); e == api.OK {
			sameCoins(t, s.o, pays, order)
			found["Order"]++
		}
		if pays, order, e := debt.Exact(s.o); e == api.OK {
			sameCoins(t, s.o, pays, order)
			found["Exact"]++
		}
	}
	found.need(t, "Order", "Exact")
}

func TestThePoorCannotPay(t *testing.T) { // P5.16
	found := met{}
	for i, s := range samples(600) {
		if len(must[[]int](t)(debt.Poor(s.o))) == 0 {
			continue
		}
		for n, pays := range s.all {
			if n > 30 {
				break
			}
			if l, e := debt.Order(s.o, pays); e != api.ErrVoid {
				t.Errorf("sample %d: Order of %v, %v: %v %v", i, s.o, pays, l, e)
			}
			found[[]string{"a settlement", "with more payments"}[min(len(pays)-len(s.fewest[0]), 1)]]++
		}
		if pays, order, e := debt.Exact(s.o); e != api.ErrVoid {
			t.Errorf("sample %d: Exact of %v: %v %v %v", i, s.o, pays, order, e)
		}
	}
	found.need(t, "a settlement", "with more payments")
}

func TestPennies(t *testing.T) { // P5.17
	d := dice(517)
	found := met{}
	for i := range 1500 {
		o := d.owing(2+i%4, d.roll(api.MaxDebts+1), 2)
		for p := range o.Purses {
			o.Purses[p] = d.purse(api.MaxCoins, 1)
		}
		pays := must[debts](t)(debt.Fewest(o))
		if len(must[[]int](t)(debt.Poor(o))) > 0 {
			found["poor"]++
			continue
		}
		sameCoins(t, o, pays, must[[]int](t)(debt.Order(o, pays)))
		if l, _, e := debt.Exact(o); e != api.OK || !slices.Equal(l, pays) {
			t.Errorf("owing %d: Exact of %v: %v %v, not %v", i, o, l, e, pays)
		}
		found[[]string{"no payment", "one payment", "more payments"}[min(len(pays), 2)]]++
	}
	found.need(t, "poor", "no payment", "one payment", "more payments")
}

func TestApartIsNotLess(t *testing.T) { // P5.18
	found := met{}
	for i, o := range owings(800) {
		fewest := len(must[debts](t)(debt.Fewest(o)))
		for _, p := range twos(o) {
			n, e := debt.Apart(o, p.x, p.y)
			surely := must[int](t)(debt.Verdict(o, p.x, p.y)) == api.Surely || must[int](t)(debt.Verdict(o, p.y, p.x)) == api.Surely
			if e == api.OK && n < fewest || !surely && (e != api.OK || n != fewest) {
				t.Errorf("owing %d: Apart of %v, %v: %d %v, with %d payments", i, o, p, n, e, fewest)
			}
			switch {
			case !surely:
				found["as many"]++
			case e == api.ErrVoid:
				found["none"]++
			case n == fewest:
				t.Errorf("owing %d: Apart of %v, %v: %d, though one surely pays the other one", i, o, p, n)
			default:
				found["more"]++
			}
		}
	}
	found.need(t, "as many", "none", "more")
}

func TestMoreCoins(t *testing.T) { // P5.19
	d := dice(519)
	found := met{}
	for i, s := range samples(1200) {
		pays := s.pays(&d)
		before, e := debt.Order(s.o, pays)
		_, _, g := debt.Exact(s.o)
		for p, coins := range s.o.Purses {
			if len(coins) == api.MaxCoins {
				continue
			}
			o := s.o
			o.Purses = slices.Clone(o.Purses)
			o.Purses[p] = slices.Insert(slices.Clone(coins), d.roll(len(coins)+1), 1+d.roll(api.MaxCoin))
			after, f := debt.Order(o, pays)
			if e == api.OK && (f != api.OK || slices.Compare(after, before) > 0) {
				t.Errorf("sample %d: Order of %v, %v: %v, of %v: %v %v", i, s.o, pays, before, o, after, f)
			}
			if _, _, h := debt.Exact(o); g == api.OK && h != api.OK {
				t.Errorf("sample %d: Exact of %v: %v, of %v: %v", i, s.o, g, o, h)
			}
			found[e.Error()+", then "+f.Error()]++
		}
	}
	found.need(t, api.OK.Error()+", then "+api.OK.Error(), api.ErrVoid.Error()+", then "+api.OK.Error())
}

func TestDouble(t *testing.T) { // P5.20
	d := dice(520)
	for i := range 600 {
		o := d.owing(2+i%4, d.roll(api.MaxDebts/2+1), []int{2, 9}[d.roll(2)])
		twice := change(o, func(o *api.Owing) { o.Debts = slices.Concat(o.Debts, o.Debts) })
		var want debts
		for _, p := range must[debts](t)(debt.Fewest(o)) {
			want = append(want, api.Debt{From: p.From, To: p.To, Pounds: 2 * p.Pounds})
		}
		if l := must[debts](t)(debt.Fewest(twice)); !slices.Equal(l, want) {
			t.Errorf("owing %d: Fewest of %v: %v, not %v", i, twice, l, want)
		}
		if m, n := must[int](t)(debt.Count(o)), must[int](t)(debt.Count(twice)); m != n {
			t.Errorf("owing %d: Count of %v: %d, of %v: %d", i, o, m, twice, n)
		}
		for _, p := range twos(o) {
			if v, w := must[int](t)(debt.Verdict(o, p.x, p.y)), must[int](t)(debt.Verdict(twice, p.x, p.y)); v != w {
				t.Errorf("owing %d: Verdict of %v, %v: %d, twice %d", i, o, p, v, w)
			}
		}
	}
}

func renumberedDebts(list debts, to []int) debts {
	var l debts
	for _, d := range list {
		l = append(l, api.Debt{From: to[d.From], To: to[d.To], Pounds: d.Pounds})
	}
	return l
}

// renumbered returns the owing in which persons have these numbers.
func renumbered(o api.Owing, to []int) api.Owing {
	n := api.Owing{Purses: make(rows, len(to)), Debts: renumberedDebts(o.Debts, to)}
	for p, coins := range o.Purses {
		n.Purses[to[p]] = coins
	}
	return n
}

func TestRenumbered(t *testing.T) { // P5.21
	d := dice(521)
	found := met{}
	for i, o := range owings(800) {
		to := d.shuffled(len(o.Purses))
		r := renumbered(o, to)
		l, m := must[debts](t)(debt.Fewest(o)), must[debts](t)(debt.Fewest(r))
		if len(l) != len(m) || debt.Right(r, renumberedDebts(l, to)) != api.OK {
			t.Errorf("owing %d: Fewest of %v: %v, of %v: %v", i, o, l, r, m)
		}
		if a, b := must[int](t)(debt.Count(o)), must[int](t)(debt.Count(r)); a != b {
			t.Errorf("owing %d: Count of %v: %d, of %v: %d", i, o, a, r, b)
		}
		if a, b := groupsOf(t, o), groupsOf(t, r); a != b {
			t.Errorf("owing %d: %d groups of %v, %d of %v", i, a, o, b, r)
		}
		for _, p := range twos(o) {
			if v, w := must[int](t)(debt.Verdict(o, p.x, p.y)), must[int](t)(debt.Verdict(r, to[p.x], to[p.y])); v != w {
				t.Errorf("owing %d: Verdict of %v, %v: %d, of %v: %d", i, o, p, v, r, w)
			}
			k, e := debt.Apart(o, p.x, p.y)
			if n, f := debt.Apart(r, to[p.x], to[p.y]); k != n || e != f {
				t.Errorf("owing %d: Apart of %v, %v: %d %v, of %v: %d %v", i, o, p, k, e, r, n, f)
			}
		}
		a, e := debt.Order(o, l)
		if b, f := debt.Order(r, renumberedDebts(l, to)); e != f || !slices.Equal(a, b) {
			t.Errorf("owing %d: Order of %v, %v: %v %v, of %v: %v %v", i, o, l, a, e, r, b, f)
		}
		if !slices.Equal(renumberedDebts(l, to), m) {
			found["another first settlement"]++
		}
	}
	found.need(t, "another first settlement")
}

// price returns the price that a seller and a buyer strike at, at least one pound, in some bargain.
func price(t *testing.T, d *dice) int {
	t.Helper()
	for {
		low, high := 1+d.roll(4), 6+d.roll(7)
		b := api.Bargain{Ask: high, Bid: low, First: d.roll(2), Step: api.Range{From: 1, To: 1 + d.roll(3)}, Seller: api.Range{From: low, To: high}, Buyer: api.Range{From: low, To: high}}
		limit := func() int { return low + d.roll(high-low+1) }
		if p := must[int](t)(bargain.Price(b, limit(), limit())); p != -1 {
			return p
		}
	}
}

// sold returns the debt of the buyer to the seller, in two if it is too great for one.
func sold(seller, buyer, pounds int) []int {
	if pounds > api.MaxDebt {
		return ints{buyer, seller, api.MaxDebt, buyer, seller, pounds - api.MaxDebt}
	}
	return ints{buyer, seller, pounds}
}

func TestSoldOnAtOnePrice(t *testing.T) { // T3
	d := dice(3)
	found := met{}
	for i := range 300 {
		people := 2 + i%4
		hands, pounds := d.shuffled(people)[:2+d.roll(people-1)], price(t, &d)
		o := without(people)
		for n, buyer := range hands[1:] {
			o = then(o, sold(hands[n], buyer, pounds)...)
		}
		one := api.Debt{From: hands[len(hands)-1], To: hands[0], Pounds: pounds}
		if l := must[debts](t)(debt.Fewest(o)); !slices.Equal(l, debts{one}) {
			t.Errorf("Fewest of %v: %v, not %v", o, l, one)
		}
		if n := must[int](t)(debt.Count(o)); n != 1 {
			t.Errorf("Count of %v: %d", o, n)
		}
		for _, p := range twos(o) {
			want := api.Never
			if p == (two{one.From, one.To}) {
				want = api.Surely
			}
			if v := must[int](t)(debt.Verdict(o, p.x, p.y)); v != want {
				t.Errorf("Verdict of %v, %v: %d, not %d", o, p, v, want)
			}
		}
		// If the first one buys it back at this price, nobody is owed anything.
		back := then(o, sold(one.From, one.To, pounds)...)
		if len(back.Debts) <= api.MaxDebts {
			if l := must[debts](t)(debt.Fewest(back)); len(l) != 0 || total(modelNets(back)) != 0 {
				t.Errorf("Fewest of %v: %v", back, l)
			}
			found["bought back"]++
		}
		found[[]string{"", "", "sold once", "twice", "more", "more"}[len(hands)]]++
		if pounds > api.MaxDebt {
			found["two debts"]++
		}
	}
	found.need(t, "sold once", "twice", "more", "two debts", "bought back")
}

func TestSoldOnAtOtherPrices(t *testing.T) { // T3
	d := dice(33)
	found := met{}
	for i := range 300 {
		people := 2 + i%4
		hands := d.shuffled(people)[:2+d.roll(people-1)]
		o, gained := without(people), make(ints, people)
		for n, buyer := range hands[1:] {
			pounds := price(t, &d)
			o = then(o, sold(hands[n], buyer, pounds)...)
			gained[hands[n]] += pounds
			gained[buyer] -= pounds
		}
		if l := must[[]int](t)(debt.Net(o)); !slices.Equal(l, gained) {
			t.Errorf("Net of %v: %v, not %v", o, l, gained)
		}
		for _, p := range hands[1 : len(hands)-1] {
			found[[]string{"lost", "came out even", "gained"}[1+min(max(gained[p], -1), 1)]]++
		}
	}
	found.need(t, "lost", "came out even", "gained")
}
