package chain_test

import (
	"slices"
	"testing"

	"palfrey/api"
	"palfrey/bargain"
	"palfrey/chain"
)

// must returns what a call has returned, and makes an error of it that it should not have returned.
func must[T any](t *testing.T) func(v T, e api.Errno) T {
	return func(v T, e api.Errno) T {
		t.Helper()
		if e != api.OK {
			t.Errorf("%v", e)
		}
		return v
	}
}

// met makes sure that a test has met each of the cases that it is about.
type met map[string]int

func (m met) need(t *testing.T, cases ...string) {
	t.Helper()
	for _, c := range cases {
		if m[c] == 0 {
			t.Errorf("no sample was about: %s", c)
		}
	}
}

func nameOf(verdict int) string { return []string{"no verdict", "surely", "never", "maybe"}[verdict] }

// count returns what Count returns.
func count(t *testing.T, a api.Trade) (lots, broken int) {
	t.Helper()
	lots, broken, e := chain.Count(a)
	if e != api.OK {
		t.Errorf("Count of %v: %v", a, e)
	}
	return lots, broken
}

// settled returns the trade if it is known of which horse the deal was.
func settled(t api.Trade, deal, horse int) api.Trade {
	t.Deals = slices.Clone(t.Deals)
	t.Deals[deal].Horses = ints{horse}
	return t
}

func TestFromDealToDeal(t *testing.T) { // P4.8
	found := met{}
	for i, s := range samples(300) {
		for _, lot := range s.lots {
			owners := must[[][]int](t)(chain.Owners(s.t, lot))
			if len(owners) != len(s.t.Deals)+1 || !slices.Equal(owners[0], s.t.Dawn) {
				t.Errorf("sample %d: Owners of %v in %v: %v", i, s.t, lot, owners)
			}
			for n, d := range s.t.Deals {
				want := slices.Clone(owners[n])
				want[lot[n]] = d.Buyer
				if !slices.Equal(owners[n+1], want) {
					t.Errorf("sample %d: %v in %v, after the deal %d %v", i, owners[n], lot, n, owners[n+1])
				}
				if slices.Equal(want, owners[n]) {
					found["no change"]++
				} else {
					found["one change"]++
				}
			}
		}
	}
	found.need(t, "no change", "one change")
}

func TestWhatAllLotsSay(t *testing.T) { // P4.9, P4.2, P4.3 and P0: exact over all lots
	found := met{}
	for i, s := range samples(600) {
		if lots, broken := count(t, s.t); lots != len(s.best) || broken != s.broken {
			t.Errorf("sample %d: Count of %v: %d %d, not %d %d", i, s.t, lots, broken, len(s.best), s.broken)
		}
		if l := must[[]int](t)(chain.Best(s.t)); !slices.Equal(l, s.best[0]) {
			t.Errorf("sample %d: Best of %v: %v, not %v", i, s.t, l, s.best[0])
		}
		if !slices.Equal(s.best[0], s.lots[0]) {
			found["not the first lot"]++
		}
		verdict := func(call string, v int, holds func(lot []int) bool) {
			t.Helper()
			if want := modelVerdict(s.best, holds); v != want {
				t.Errorf("sample %d: %s of %v: %d, not %d", i, call, s.t, v, want)
			}
			found[call+" "+nameOf(v)]++
		}
		for horse := range s.t.Dawn {
			for n := range s.t.Deals {
				verdict("Of", must[int](t)(chain.Of(s.t, n, horse)), func(lot []int) bool { return lot[n] == horse })
			}
			for person := range s.t.Persons {
				verdict("Dusk", must[int](t)(chain.Dusk(s.t, horse, person)), func(lot []int) bool { return modelOwner(s.t, lot, horse, len(lot)) == person })
				verdict("Had", must[int](t)(chain.Had(s.t, horse, person)), func(lot []int) bool { return slices.Contains(modelHands(s.t, lot, horse), person) })
			}
		}
	}
	found.need(t, "not the first lot")
	for _, call := range []string{"Of", "Dusk", "Had"} {
		found.need(t, call+" surely", call+" never", call+" maybe")
	}
}

func TestHandsAreLengthsOfChains(t *testing.T) { // P4.10, and Hands of P4.4
	found := met{}
	for i, s := range samples(600) {
		for horse := range s.t.Dawn {
			r := must[api.Range](t)(chain.Hands(s.t, horse))
			var deals, last []int
			for _, l := range must[[][]int](t)(chain.Chains(s.t, horse)) {
				deals, last = append(deals, len(l)-1), append(last, l[len(l)-1])
			}
			if r != (api.Range{From: slices.Min(deals), To: slices.Max(deals)}) {
				t.Errorf("sample %d: Hands of %v, horse %d: %v, with chains of %v deals", i, s.t, horse, r, deals)
			}
			for person := range s.t.Persons {
				v := must[int](t)(chain.Dusk(s.t, horse, person))
				if slices.Contains(last, person) != (v != api.Never) {
					t.Errorf("sample %d: Dusk of %v, horse %d, person %d: %d, last hands %v", i, s.t, horse, person, v, last)
				}
			}
			if r.From < r.To {
				found["not as many"]++
			} else if len(deals) > 1 {
				found["as many"]++
			}
		}
	}
	found.need(t, "as many", "not as many")
}

func TestChainsInAllBestLots(t *testing.T) { // P4.11, and Chains of P4.4
	found := met{}
	for i, s := range samples(600) {
		for horse := range s.t.Dawn {
			want := modelChains(s.t, s.best, horse)
			if l := must[[][]int](t)(chain.Chains(s.t, horse)); !sameRows(l, want) {
				t.Errorf("sample %d: Chains of %v, horse %d: %v, not %v", i, s.t, horse, l, want)
			}
			if len(want) < len(s.best) {
				found["twice the same"]++
			}
			if len(want) > 1 && len(want[0]) < len(want[1]) && slices.Equal(want[0], want[1][:len(want[0])]) {
				found["one goes on"]++
			}
		}
	}
	found.need(t, "twice the same", "one goes on")
}

func TestWithoutTheDealsOfStruck(t *testing.T) { // P4.12, and Struck of P4.5
	found := met{}
	for i, s := range samples(600) {
		list := must[[]int](t)(chain.Struck(s.t))
		if want := modelStruck(s.t); !slices.Equal(list, want) {
			t.Errorf("sample %d: Struck of %v: %v, not %v", i, s.t, list, want)
		}
		for _, l := range lists(len(s.t.Deals)) {
			_, broken := count(t, without(s.t, l))
			if slices.Equal(l, list) {
				if broken > 0 {
					t.Errorf("sample %d: Struck of %v: %v, but %d are broken without", i, s.t, list, broken)
				}
				break
			}
			if broken == 0 {
				t.Errorf("sample %d: Struck of %v: %v, not %v", i, s.t, list, l)
			}
			if len(l) == len(list) {
				found["not the first list"]++
			}
		}
		found[[]string{"none", "one", "more"}[min(len(list), 2)]]++
		if len(list) > s.broken {
			found["more than are broken"]++
		}
	}
	found.need(t, "none", "one", "more", "not the first list", "more than are broken")
}

// mostRemain returns how many best lots remain if it is settled of which horse the deal was, at the most.
func mostRemain(t *testing.T, a api.Trade, deal int) int {
	t.Helper()
	n := 0
	for _, horse := range a.Deals[deal].Horses {
		if must[int](t)(chain.Of(a, deal, horse)) != api.Never {
			lots, _ := count(t, settled(a, deal, horse))
			n = max(n, lots)
		}
	}
	return n
}

func TestNoSuitIsBetter(t *testing.T) { // P4.13, and Suit of P4.6
	found := met{}
	for i, s := range samples(600) {
		deal, lots, e := chain.Suit(s.t)
		if d, n, due := modelSuit(s.t, s.best); d != deal || n != lots || due != e {
			t.Errorf("sample %d: Suit of %v: %d %d %v, not %d %d %v", i, s.t, deal, lots, e, d, n, due)
		}
		found[e.Error()]++
		least := len(s.best)
		for n := range s.t.Deals {
			remain := mostRemain(t, s.t, n)
			if e == api.OK && (remain < lots || n == deal && remain != lots || n < deal && remain == lots) {
				t.Errorf("sample %d: Suit of %v: %d %d, and %d remain with the deal %d", i, s.t, deal, lots, remain, n)
			}
			if n > deal && e == api.OK && remain == lots {
				found["as good"]++
			}
			least = min(least, remain)
		}
		if (e == api.ErrVoid) != (least == len(s.best)) {
			t.Errorf("sample %d: Suit of %v: %v, and %d of %d lots remain", i, s.t, e, least, len(s.best))
		}
		if deal > 0 {
			found["not the first deal"]++
		}
		if lots > 1 {
			found["more than one remains"]++
		}
	}
	found.need(t, api.OK.Error(), api.ErrVoid.Error(), "as good", "not the first deal", "more than one remains")
}

// decided tells whether the owner of the horse at dusk is known however the deals of the list are settled.
func decided(t *testing.T, s sample, list []int, horse int) bool {
	t.Helper()
	for _, lot := range s.best {
		a := s.t
		for _, n := range list {
			a = settled(a, n, lot[n])
		}
		for person := range a.Persons {
			if must[int](t)(chain.Dusk(a, horse, person)) == api.MayBe {
				return false
			}
		}
	}
	return true
}

func TestDecideSettlesTheOwner(t *testing.T) { // P4.14, and Decide of P4.6
	found := met{}
	for i, s := range samples(600) {
		for horse := range s.t.Dawn {
			list := must[[]int](t)(chain.Decide(s.t, horse))
			if want := modelDecide(s.t, s.best, horse); !slices.Equal(list, want) {
				t.Errorf("sample %d: Decide of %v, horse %d: %v, not %v", i, s.t, horse, list, want)
			}
			found[[]string{"none", "one", "more"}[min(len(list), 2)]]++
			if len(s.best) > 20 {
				continue
			}
			for _, l := range lists(len(s.t.Deals)) {
				is := slices.Equal(l, list)
				if decided(t, s, l, horse) != is {
					t.Errorf("sample %d: Decide of %v, horse %d: %v, and what of %v?", i, s.t, horse, list, l)
				}
				if is {
					break
				}
				if len(l) == len(list) {
					found["not the first list"]++
				}
			}
			if len(list) == 0 && len(must[[][]int](t)(chain.Chains(s.t, horse))) > 1 {
				found["several chains to one owner"]++
			}
		}
	}
	found.need(t, "none", "one", "more", "not the first list", "several chains to one owner")
}

func TestOneHorseADeal(t *testing.T) { // P4.15
	d := dice(15)
	for i := range 300 {
		a := d.trade(2+d.roll(3), 1+d.roll(3), d.roll(7), d.roll(5))
		var lot []int
		for n := range a.Deals {
			horse := d.one(a.Deals[n].Horses)
			a, lot = settled(a, n, horse), append(lot, horse)
		}
		lots, broken := count(t, a)
		if l := must[[]int](t)(chain.Best(a)); lots != 1 || !slices.Equal(l, lot) || broken != len(modelBroken(a, lot)) {
			t.Errorf("trade %d: %d lots, Best %v, %d broken in %v", i, lots, l, broken, lot)
		}
		if deal, n, e := chain.Suit(a); deal != 0 || n != 0 || e != api.ErrVoid {
			t.Errorf("trade %d: Suit of %v: %d %d %v", i, a, deal, n, e)
		}
		for horse := range a.Dawn {
			for n := range a.Deals {
				if v := must[int](t)(chain.Of(a, n, horse)); v == api.MayBe {
					t.Errorf("trade %d: Of of %v, deal %d, horse %d", i, a, n, horse)
				}
			}
			for person := range a.Persons {
				if v, w := must[int](t)(chain.Dusk(a, horse, person)), must[int](t)(chain.Had(a, horse, person)); v == api.MayBe || w == api.MayBe {
					t.Errorf("trade %d: Dusk and Had of %v, horse %d, person %d: %d %d", i, a, horse, person, v, w)
				}
			}
			r := must[api.Range](t)(chain.Hands(a, horse))
			l := must[[][]int](t)(chain.Chains(a, horse))
			if r.From != r.To || !sameRows(l, rows{modelHands(a, lot, horse)}) || len(must[[]int](t)(chain.Decide(a, horse))) > 0 {
				t.Errorf("trade %d: Hands and Chains of %v, horse %d: %v %v", i, a, horse, r, l)
			}
		}
	}
}

func TestSurer(t *testing.T) { // P4.16
	found := met{}
	for i, s := range samples(600) {
		_, before := count(t, s.t)
		for n, d := range s.t.Deals {
			for _, horse := range d.Horses {
				a := s.t
				a.Deals = slices.Clone(a.Deals)
				a.Deals[n].Horses = slices.DeleteFunc(slices.Clone(d.Horses), func(h int) bool { return h == horse })
				if len(d.Horses) == 1 {
					continue
				}
				_, after := count(t, a)
				if after < before {
					t.Errorf("sample %d: %d broken in %v, %d if the deal %d is not of %d", i, before, s.t, after, n, horse)
				}
				found[[]string{"as many", "more"}[min(after-before, 1)]]++
			}
		}
	}
	found.need(t, "as many", "more")
}

func TestOneDealMore(t *testing.T) { // P4.17
	d := dice(17)
	found := met{}
	for i, s := range samples(600) {
		if len(s.t.Deals) == api.ChainDeals {
			continue
		}
		last := d.deal(s.t)
		_, before := count(t, s.t)
		_, after := count(t, then(s.t, last))
		if after != before && after != before+1 {
			t.Errorf("sample %d: %d broken in %v, %d with %v", i, before, s.t, after, last)
			continue
		}
		found[[]string{"as many", "one more"}[after-before]]++
	}
	found.need(t, "as many", "one more")
}

// image is a trade b that is another one's image: its deals, horses and persons have other numbers, by the old ones.
type image struct {
	a, b                   api.Trade
	deals, horses, persons []int
}

// numbers returns the numbers less than n.
func numbers(n int) []int {
	list := make([]int, n)
	for i := range list {
		list[i] = i
	}
	return list
}

// itself is the image in which all has the number that it had.
func itself(a api.Trade) image {
	return image{a: a, b: a, deals: numbers(len(a.Deals)), horses: numbers(len(a.Dawn)), persons: numbers(a.Persons)}
}

// lot returns the lot of b that is the image of one of a.
func (x image) lot(lot []int) []int {
	l := make([]int, len(lot))
	for i, horse := range lot {
		l[x.deals[i]] = x.horses[horse]
	}
	return l
}

func (x image) hands(list []int) []int {
	var l []int
	for _, person := range list {
		l = append(l, x.persons[person])
	}
	return l
}

// same compares all that is returned of both trades, but what the order of lots and of deals makes the first one.
func (x image) same(t *testing.T) {
	t.Helper()
	m, n := count(t, x.a)
	k, l := count(t, x.b)
	if m != k || n != l {
		t.Errorf("Count of %v: %d %d, of %v: %d %d", x.a, m, n, x.b, k, l)
	}
	best := x.lot(must[[]int](t)(chain.Best(x.a)))
	if list := must[[]int](t)(chain.Broken(x.b, best)); len(list) != n {
		t.Errorf("Best of %v is %v in %v, where %v are broken", x.a, best, x.b, list)
	}
	_, m, e := chain.Suit(x.a)
	if _, n, f := chain.Suit(x.b); n != m || e != f {
		t.Errorf("Suit of %v: %d %v, of %v: %d %v", x.a, m, e, x.b, n, f)
	}
	for horse := range x.a.Dawn {
		x.sameHorse(t, horse)
	}
}

func (x image) sameHorse(t *testing.T, horse int) {
	t.Helper()
	verdicts := func(call string, v, w int) {
		t.Helper()
		if v != w {
			t.Errorf("%s of %v, horse %d: %d, of %v: %d", call, x.a, horse, v, x.b, w)
		}
	}
	to := x.horses[horse]
	for n, m := range x.deals {
		verdicts("Of", must[int](t)(chain.Of(x.a, n, horse)), must[int](t)(chain.Of(x.b, m, to)))
	}
	for p, q := range x.persons {
		verdicts("Dusk", must[int](t)(chain.Dusk(x.a, horse, p)), must[int](t)(chain.Dusk(x.b, to, q)))
		verdicts("Had", must[int](t)(chain.Had(x.a, horse, p)), must[int](t)(chain.Had(x.b, to, q)))
	}
	if r, q := must[api.Range](t)(chain.Hands(x.a, horse)), must[api.Range](t)(chain.Hands(x.b, to)); r != q {
		t.Errorf("Hands of %v, horse %d: %v, of %v: %v", x.a, horse, r, x.b, q)
	}
	var want [][]int
	for _, l := range must[[][]int](t)(chain.Chains(x.a, horse)) {
		want = append(want, x.hands(l))
	}
	slices.SortFunc(want, slices.Compare)
	if l := must[[][]int](t)(chain.Chains(x.b, to)); !sameRows(l, want) {
		t.Errorf("Chains of %v, horse %d, are %v of %v, not %v", x.a, horse, l, x.b, want)
	}
}

// swapped returns the image of the trade in which a deal and the next one have changed places.
func swapped(a api.Trade, n int) image {
	x := itself(a)
	x.b.Deals = slices.Clone(a.Deals)
	x.b.Deals[n], x.b.Deals[n+1] = a.Deals[n+1], a.Deals[n]
	x.deals[n], x.deals[n+1] = n+1, n
	return x
}

// list returns the numbers in b of deals of a.
func (x image) list(deals []int) []int {
	var l []int
	for _, n := range deals {
		l = append(l, x.deals[n])
	}
	slices.Sort(l)
	return l
}

// sameLists compares what the order of two deals does not change, since one of them has one horse: it is in no list of Decide, and no suit is about it.
func (x image) sameLists(t *testing.T) {
	t.Helper()
	if l, m := x.lot(must[[]int](t)(chain.Best(x.a))), must[[]int](t)(chain.Best(x.b)); !slices.Equal(l, m) {
		t.Errorf("Best of %v is %v in %v, not %v", x.a, l, x.b, m)
	}
	n, _, e := chain.Suit(x.a)
	if m, _, _ := chain.Suit(x.b); e == api.OK && m != x.deals[n] {
		t.Errorf("Suit of %v: %d, of %v: %d", x.a, n, x.b, m)
	}
	for horse := range x.a.Dawn {
		if l, m := x.list(must[[]int](t)(chain.Decide(x.a, horse))), must[[]int](t)(chain.Decide(x.b, horse)); !slices.Equal(l, m) {
			t.Errorf("Decide of %v, horse %d, is %v in %v, not %v", x.a, horse, l, x.b, m)
		}
	}
}

func common(a, b api.Deal) bool {
	return slices.ContainsFunc(a.Horses, func(h int) bool { return slices.Contains(b.Horses, h) })
}

func TestSwapped(t *testing.T) { // P4.18
	found := met{}
	for i, s := range samples(900) {
		for n := range max(len(s.t.Deals), 1) - 1 {
			if common(s.t.Deals[n], s.t.Deals[n+1]) {
				continue
			}
			x := swapped(s.t, n)
			x.same(t)
			found["swapped"]++
			for _, lot := range s.lots {
				a, b := must[[][]int](t)(chain.Owners(x.a, lot)), must[[][]int](t)(chain.Owners(x.b, x.lot(lot)))
				if !sameRows(slices.Delete(a, n+1, n+2), slices.Delete(b, n+1, n+2)) {
					t.Errorf("sample %d: Owners of %v in %v: %v, of %v: %v", i, x.a, lot, a, x.b, b)
				}
			}
			x.sameLists(t)
			if l, m := x.list(must[[]int](t)(chain.Struck(x.a))), must[[]int](t)(chain.Struck(x.b)); !slices.Equal(l, m) {
				// Of lists that are as good another one may have become the first one.
				if found["another Struck"]++; len(l) != len(m) || !modelSound(without(x.b, l)) {
					t.Errorf("sample %d: Struck of %v is %v in %v, not %v", i, x.a, l, x.b, m)
				}
			}
		}
	}
	found.need(t, "swapped", "another Struck")
}

// renumbered returns the image of the trade in which persons and horses have these numbers.
func renumbered(a api.Trade, persons, horses []int) image {
	x := itself(a)
	x.persons, x.horses = persons, horses
	x.b = api.Trade{Persons: a.Persons, Dawn: make(ints, len(a.Dawn))}
	for horse, owner := range a.Dawn {
		x.b.Dawn[horses[horse]] = persons[owner]
	}
	for _, d := range a.Deals {
		b := deal(persons[d.Seller], persons[d.Buyer])
		for _, horse := range d.Horses {
			b.Horses = append(b.Horses, horses[horse])
		}
		slices.Sort(b.Horses)
		x.b.Deals = append(x.b.Deals, b)
	}
	return x
}

func TestRenumbered(t *testing.T) { // P4.19
	d := dice(19)
	found := met{}
	for i, s := range samples(600) {
		x := renumbered(s.t, d.shuffled(s.t.Persons), d.shuffled(len(s.t.Dawn)))
		x.same(t)
		for _, lot := range s.lots {
			if a, b := must[[]int](t)(chain.Broken(x.a, lot)), must[[]int](t)(chain.Broken(x.b, x.lot(lot))); !slices.Equal(a, b) {
				t.Errorf("sample %d: Broken of %v in %v: %v, of %v: %v", i, x.a, lot, a, x.b, b)
			}
		}
		if l, m := must[[]int](t)(chain.Struck(x.a)), must[[]int](t)(chain.Struck(x.b)); !slices.Equal(l, m) {
			t.Errorf("sample %d: Struck of %v: %v, of %v: %v", i, x.a, l, x.b, m)
		}
		k, _, _ := chain.Suit(x.a)
		if n, _, _ := chain.Suit(x.b); k != n {
			t.Errorf("sample %d: Suit of %v: %d, of %v: %d", i, x.a, k, x.b, n)
		}
		for horse, to := range x.horses {
			if l, m := must[[]int](t)(chain.Decide(x.a, horse)), must[[]int](t)(chain.Decide(x.b, to)); !slices.Equal(l, m) {
				t.Errorf("sample %d: Decide of %v, horse %d: %v, of %v: %v", i, x.a, horse, l, x.b, m)
			}
		}
		if !slices.Equal(x.lot(s.best[0]), must[[]int](t)(chain.Best(x.b))) {
			found["another first lot"]++
		}
	}
	found.need(t, "another first lot")
}

// haggle returns a bargain that is over, with whatever the sides may say.
func haggle(t *testing.T, d *dice) api.Bargain {
	t.Helper()
	b := api.Bargain{Ask: 8, Bid: 3, First: d.roll(2), Step: api.Range{From: 1, To: 3}, Seller: api.Range{From: 2, To: 8}, Buyer: api.Range{From: 3, To: 9}}
	for {
		if _, _, turn, e := bargain.Now(b); turn == -1 || e != api.OK {
			return b
		}
		for _, n := range d.shuffled(api.MaxPrice + 2) {
			if c, e := bargain.Name(b, n-1); e == api.OK {
				b = c
				break
			}
		}
	}
}

// isStruck needs a bargain that is over.
func isStruck(t *testing.T, b api.Bargain) bool {
	t.Helper()
	v := must[int](t)(bargain.Meets(b))
	ask, bid, turn, e := bargain.Now(b)
	if e != api.OK || turn != -1 || (v == api.Surely) != (ask == bid) || v == api.MayBe {
		t.Errorf("%v: %d, %d %d %d %v", b, v, ask, bid, turn, e)
	}
	return v == api.Surely
}

func TestJustThoseThatAreStruck(t *testing.T) { // T2
	d := dice(2)
	found := met{}
	for range 400 {
		a := d.morning(2+d.roll(3), 1)
		owner, hands := a.Dawn[0], slices.Clone(a.Dawn)
		for len(a.Deals) < api.ChainDeals {
			buyer := d.other(owner, a.Persons)
			bought := deal(owner, buyer, 0)
			if isStruck(t, haggle(t, &d)) {
				a = must[api.Trade](t)(chain.Add(a, bought))
				owner, hands = buyer, append(hands, buyer)
				found["struck"]++
				continue
			}
			found["parted"]++
			sold := deal(buyer, d.other(buyer, a.Persons), 0)
			if b, e := chain.Add(a, sold); e != api.ErrFalse || !sameTrade(b, api.Trade{}) {
				t.Errorf("%v: who parted sells: %v %v", a, b, e)
			}
			if _, broken := count(t, then(a, sold)); broken != 1 {
				t.Errorf("%v: who parted sells: %d broken", a, broken)
			}
			// With the bargain that is missing they can.
			if len(a.Deals)+2 <= api.ChainDeals {
				must[api.Trade](t)(chain.Add(then(a, bought), sold))
			}
		}
		if _, broken := count(t, a); broken != 0 || len(must[[]int](t)(chain.Struck(a))) > 0 {
			t.Errorf("%v: %d broken", a, broken)
		}
		if l := must[[][]int](t)(chain.Chains(a, 0)); !sameRows(l, rows{hands}) {
			t.Errorf("Chains of %v: %v, not %v", a, l, hands)
		}
		for person := range a.Persons {
			want := api.Never
			if person == owner {
				want = api.Surely
			}
			if v := must[int](t)(chain.Dusk(a, 0, person)); v != want {
				t.Errorf("Dusk of %v, person %d: %d", a, person, v)
			}
		}
	}
	found.need(t, "struck", "parted")
}
