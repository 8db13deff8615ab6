package chain_test

import (
	"slices"
	"testing"

	"palfrey/api"
	"palfrey/chain"
)

type (
	ints = []int
	rows = [][]int
)

func deal(seller, buyer int, horses ...int) api.Deal {
	return api.Deal{Seller: seller, Buyer: buyer, Horses: horses}
}

// trade is one of three persons.
func trade(dawn []int, deals ...api.Deal) api.Trade {
	return api.Trade{Persons: 3, Dawn: dawn, Deals: deals}
}

// exampleS is the trade S of the chapter's examples.
func exampleS() api.Trade {
	return trade(ints{0, 1}, deal(0, 1, 0), deal(1, 2, 0, 1), deal(1, 0, 0, 1), deal(2, 0, 0, 1))
}

func exampleT() api.Trade { return change(exampleS(), func(t *api.Trade) { t.Deals = t.Deals[:3] }) }

func exampleU() api.Trade {
	return change(exampleS(), func(t *api.Trade) { t.Deals[0] = deal(2, 1, 0) })
}

// quiet is a trade without deals.
func quiet() api.Trade { return trade(ints{0, 1}) }

// unknown is a trade of which as little is known as can be: nobody owned what they sold, and each deal can be of any horse.
func unknown() api.Trade {
	t := api.Trade{Persons: 4, Dawn: ints{0, 0, 0}}
	for i := range api.ChainDeals {
		t.Deals = append(t.Deals, deal(3, i%3, 0, 1, 2))
	}
	return t
}

// full is a trade of one horse with as many deals as there can be.
func full() api.Trade {
	t := trade(ints{0})
	for i := range api.ChainDeals {
		t.Deals = append(t.Deals, deal(i%3, (i+1)%3, 0))
	}
	return t
}

func change(t api.Trade, how func(t *api.Trade)) api.Trade {
	how(&t)
	return t
}

func sameDeal(a, b api.Deal) bool {
	return a.Seller == b.Seller && a.Buyer == b.Buyer && slices.Equal(a.Horses, b.Horses)
}

func sameTrade(a, b api.Trade) bool {
	return a.Persons == b.Persons && slices.Equal(a.Dawn, b.Dawn) && slices.EqualFunc(a.Deals, b.Deals, sameDeal)
}

func sameRows(a, b [][]int) bool { return slices.EqualFunc(a, b, slices.Equal[[]int]) }

type checked struct {
	name string
	t    api.Trade
	want api.Errno
}

// with is S with a change. Most changes make something wrong, too, that is checked later.
func with(name string, want api.Errno, how func(t *api.Trade)) checked {
	return checked{name, change(exampleS(), how), want}
}

func badMornings() []checked {
	return []checked{
		with("no persons, no horses", api.ErrFigure, func(t *api.Trade) { t.Persons, t.Dawn = 0, nil }),
		with("Persons 5, 4 horses", api.ErrFigure, func(t *api.Trade) { t.Persons, t.Dawn = 5, make(ints, 4) }),
		with("Persons -1, 7 deals", api.ErrFigure, func(t *api.Trade) { t.Persons, t.Deals = -1, make([]api.Deal, 7) }),
		with("no horses, 7 deals", api.ErrUnder, func(t *api.Trade) { t.Dawn, t.Deals = nil, make([]api.Deal, 7) }),
		with("4 horses of nobody", api.ErrOver, func(t *api.Trade) { t.Dawn = ints{3, -1, 4, 9} }),
		with("a horse of the person 3, 7 deals", api.ErrNobody, func(t *api.Trade) { t.Dawn, t.Deals = ints{0, 3}, make([]api.Deal, 7) }),
		with("a horse of the person -1", api.ErrNobody, func(t *api.Trade) { t.Dawn = ints{-1, 0} }),
		with("a horse of a person that there is no more", api.ErrNobody, func(t *api.Trade) { t.Persons, t.Deals = 1, nil }),
	}
}

func badDeals() []checked {
	return []checked{
		with("7 deals, all wrong", api.ErrOver, func(t *api.Trade) { t.Deals = slices.Repeat([]api.Deal{deal(9, 9)}, 7) }),
		with("7 deals, all right", api.ErrOver, func(t *api.Trade) { t.Deals = slices.Repeat([]api.Deal{deal(0, 1, 0)}, 7) }),
		with("an error of a later deal", api.ErrUnder, func(t *api.Trade) { t.Deals[1].Horses, t.Deals[2].Seller = nil, 3 }),
		with("an error of an earlier deal", api.ErrNobody, func(t *api.Trade) { t.Deals[1].Seller, t.Deals[2].Horses = 3, nil }),
	}
}

// refused is deals that are not valid with three persons and two horses.
func refused() []struct {
	d    api.Deal
	want api.Errno
} {
	return []struct {
		d    api.Deal
		want api.Errno
	}{
		{deal(3, 3), api.ErrNobody}, {deal(-1, -1, 0), api.ErrNobody}, {deal(3, 0), api.ErrNobody}, {deal(0, 3, 0, 1, 0, 1), api.ErrNobody},
		{deal(0, -1, 9), api.ErrNobody}, {deal(-1, 0, 0), api.ErrNobody}, {deal(2, 2), api.ErrTwin}, {deal(0, 0, 0, 1, 0, 1), api.ErrTwin},
		{deal(1, 1, 1, 0), api.ErrTwin}, {deal(0, 1), api.ErrUnder}, {deal(0, 1, 9, 8, 7, 6), api.ErrOver}, {deal(0, 1, 0, 0, 1, 1), api.ErrOver},
		{deal(0, 1, 2), api.ErrNobody}, {deal(0, 1, -1), api.ErrNobody}, {deal(0, 1, 2, 1), api.ErrNobody}, {deal(0, 1, 1, -1), api.ErrNobody},
		{deal(0, 1, 0, 2, 1), api.ErrNobody}, {deal(0, 1, 0, 1, 2), api.ErrNobody}, {deal(0, 1, 1, 0), api.ErrTurn}, {deal(0, 1, 1, 1), api.ErrTurn},
		{deal(0, 1, 1, 0, 2), api.ErrTurn}, {deal(0, 1, 0, 1, 1), api.ErrTurn}, {deal(0, 1, 0, 1, 0), api.ErrTurn},
	}
}

// allBad is all trades that are not valid.
func allBad() []checked {
	all := append(badMornings(), badDeals()...)
	for _, x := range refused() {
		all = append(all, checked{"a deal", then(exampleT(), x.d, deal(9, 9)), x.want})
		all = append(all, checked{"the first deal", trade(ints{0, 0}, x.d), x.want})
	}
	return all
}

func TestCheckReturnsTheFirstError(t *testing.T) { // P4.1
	for i, good := range []api.Trade{
		exampleS(), exampleT(), exampleU(), quiet(), unknown(), full(), trade(ints{2}),
		{Persons: 1, Dawn: ints{0}}, {Persons: 1, Dawn: ints{0, 0, 0}}, {Persons: 4, Dawn: ints{3, 2, 1}, Deals: []api.Deal{deal(3, 0, 2)}},
		{Persons: 2, Dawn: ints{1, 1, 1}, Deals: []api.Deal{deal(0, 1, 0, 2), deal(1, 0, 0, 1, 2)}},
	} {
		if e := chain.Check(good); e != api.OK {
			t.Errorf("good trade %d: %v", i, e)
		}
	}
	for _, x := range allBad() {
		if e := chain.Check(x.t); e != x.want {
			t.Errorf("%s: %v: %v, not %v", x.name, x.t, e, x.want)
		}
	}
	for i, s := range samples(600) {
		if e := chain.Check(s.t); e != api.OK {
			t.Errorf("sample %d: %v: %v", i, s.t, e)
		}
	}
}

func TestOwnersAndBroken(t *testing.T) { // P4.1
	for _, x := range []struct {
		t      api.Trade
		lot    ints
		owners rows
		broken ints
		e      api.Errno
	}{
		{exampleS(), ints{0, 0, 1, 0}, rows{{0, 1}, {1, 1}, {2, 1}, {2, 0}, {0, 0}}, nil, 0},
		{exampleS(), ints{0, 0, 0, 0}, rows{{0, 1}, {1, 1}, {2, 1}, {0, 1}, {0, 1}}, ints{2, 3}, 0},
		{exampleS(), ints{0, 1, 0, 0}, rows{{0, 1}, {1, 1}, {1, 2}, {0, 2}, {0, 2}}, ints{3}, 0},
		{exampleU(), ints{0, 0, 1, 0}, rows{{0, 1}, {1, 1}, {2, 1}, {2, 0}, {0, 0}}, ints{0}, 0},
		{quiet(), nil, rows{{0, 1}}, nil, 0}, {trade(ints{2, 1, 0}), nil, rows{{2, 1, 0}}, nil, 0},
		{trade(ints{0}, deal(1, 0, 0), deal(0, 1, 0)), ints{0, 0}, rows{{0}, {0}, {1}}, ints{0}, 0},
		{trade(ints{0}, deal(0, 1, 0), deal(2, 1, 0)), ints{0, 0}, rows{{0}, {1}, {1}}, ints{1}, 0},
		{exampleS(), ints{0, 0, 1}, nil, nil, api.ErrUnder}, {exampleS(), nil, nil, nil, api.ErrUnder}, {exampleS(), ints{9, 9, 9}, nil, nil, api.ErrUnder},
		{exampleS(), ints{0, 0, 1, 0, 0}, nil, nil, api.ErrOver}, {exampleS(), ints{9, 9, 9, 9, 9}, nil, nil, api.ErrOver}, {quiet(), ints{0}, nil, nil, api.ErrOver},
		{full(), make(ints, 7), nil, nil, api.ErrOver}, {exampleS(), ints{1, 0, 1, 0}, nil, nil, api.ErrClass}, {exampleS(), ints{0, 0, 1, 2}, nil, nil, api.ErrClass},
		{exampleS(), ints{0, 0, -1, 0}, nil, nil, api.ErrClass}, {exampleS(), ints{1 << 40, 0, 1, 0}, nil, nil, api.ErrClass},
	} {
		l, e := chain.Owners(x.t, x.lot)
		b, f := chain.Broken(x.t, x.lot)
		if e != x.e || !sameRows(l, x.owners) {
			t.Errorf("Owners of %v in %v: %v %v", x.t, x.lot, l, e)
		}
		if f != x.e || !slices.Equal(b, x.broken) {
			t.Errorf("Broken of %v in %v: %v %v", x.t, x.lot, b, f)
		}
	}
}

func TestOwnersAndBrokenInAllLots(t *testing.T) { // P4.1
	found := met{}
	for i, s := range samples(300) {
		for _, lot := range s.lots {
			want := modelBroken(s.t, lot)
			if l := must[[][]int](t)(chain.Owners(s.t, lot)); !sameRows(l, modelOwners(s.t, lot)) {
				t.Errorf("sample %d: Owners of %v in %v: %v", i, s.t, lot, l)
			}
			if l := must[[]int](t)(chain.Broken(s.t, lot)); !slices.Equal(l, want) {
				t.Errorf("sample %d: Broken of %v in %v: %v, not %v", i, s.t, lot, l, want)
			}
			found[[]string{"none", "one", "more"}[min(len(want), 2)]]++
		}
	}
	found.need(t, "none", "one", "more")
}

func TestCountAndBest(t *testing.T) { // P4.2
	for _, x := range []struct {
		t            api.Trade
		lots, broken int
		best         ints
	}{
		{exampleS(), 2, 0, ints{0, 0, 1, 0}}, {exampleT(), 2, 0, ints{0, 0, 1}}, {exampleU(), 2, 1, ints{0, 0, 1, 0}}, {quiet(), 1, 0, nil},
		{unknown(), 729, 6, make(ints, 6)}, {full(), 1, 0, make(ints, 6)}, {trade(ints{1, 0}, deal(0, 1, 0, 1), deal(1, 2, 0, 1)), 2, 0, ints{1, 0}},
		{trade(ints{0, 0}, deal(1, 2, 0, 1)), 2, 1, ints{0}}, {trade(ints{0, 1}, deal(1, 2, 0, 1)), 1, 0, ints{1}},
	} {
		if n, m, e := chain.Count(x.t); e != api.OK || n != x.lots || m != x.broken {
			t.Errorf("Count of %v: %d %d %v", x.t, n, m, e)
		}
		if l := must[[]int](t)(chain.Best(x.t)); !slices.Equal(l, x.best) {
			t.Errorf("Best of %v: %v", x.t, l)
		}
	}
}

func TestVerdicts(t *testing.T) { // P4.3
	yes, no, may := api.Surely, api.Never, api.MayBe
	for _, x := range []struct {
		t             api.Trade
		of, dusk, had rows // by deal and horse, and twice by horse and person
	}{
		{exampleS(), rows{{yes, no}, {may, may}, {may, may}, {may, may}}, rows{{yes, no, no}, {yes, no, no}}, rows{{yes, yes, may}, {yes, yes, may}}},
		{exampleT(), rows{{yes, no}, {may, may}, {may, may}}, rows{{may, no, may}, {may, no, may}}, rows{{yes, yes, may}, {may, yes, may}}},
		{quiet(), nil, rows{{yes, no, no}, {no, yes, no}}, rows{{yes, no, no}, {no, yes, no}}},
		{trade(ints{0, 1}, deal(1, 2, 0, 1)), rows{{no, yes}}, rows{{yes, no, no}, {no, no, yes}}, rows{{yes, no, no}, {no, yes, yes}}},
		{trade(ints{0}, deal(0, 1, 0), deal(1, 0, 0)), rows{{yes}, {yes}}, rows{{yes, no, no}}, rows{{yes, yes, no}}},
	} {
		for d, row := range x.of {
			for h, want := range row {
				if v := must[int](t)(chain.Of(x.t, d, h)); v != want {
					t.Errorf("Of of %v, deal %d, horse %d: %d", x.t, d, h, v)
				}
			}
		}
		for h, row := range x.dusk {
			for p, want := range row {
				if v := must[int](t)(chain.Dusk(x.t, h, p)); v != want {
					t.Errorf("Dusk of %v, horse %d, person %d: %d", x.t, h, p, v)
				}
				if v := must[int](t)(chain.Had(x.t, h, p)); v != x.had[h][p] {
					t.Errorf("Had of %v, horse %d, person %d: %d", x.t, h, p, v)
				}
			}
		}
	}
}

func TestNobody(t *testing.T) { // P4.3, P4.4, P4.6: there are 4 deals, 2 horses and 3 persons
	s := exampleS()
	for _, x := range [][3]int{{-1, 0, 0}, {4, 0, 0}, {0, -1, 0}, {0, 2, 0}, {0, 0, -1}, {0, 0, 3}, {9, 9, 9}} {
		d, h, p := x[0], x[1], x[2]
		wrong := func(call string, is bool, e api.Errno, zero bool) {
			if is != (e == api.ErrNobody) || is && !zero {
				t.Errorf("%s with the deal %d, the horse %d, the person %d: %v", call, d, h, p, e)
			}
		}
		badDeal, badHorse, badPerson := d < 0 || d > 3, h < 0 || h > 1, p < 0 || p > 2
		v, e := chain.Of(s, d, h)
		wrong("Of", badDeal || badHorse, e, v == 0)
		v, e = chain.Dusk(s, h, p)
		wrong("Dusk", badHorse || badPerson, e, v == 0)
		v, e = chain.Had(s, h, p)
		wrong("Had", badHorse || badPerson, e, v == 0)
		r, e := chain.Hands(s, h)
		wrong("Hands", badHorse, e, r == api.Range{})
		m, e := chain.Chains(s, h)
		wrong("Chains", badHorse, e, len(m) == 0)
		l, e := chain.Decide(s, h)
		wrong("Decide", badHorse, e, len(l) == 0)
	}
	if v, e := chain.Of(quiet(), 0, 0); v != 0 || e != api.ErrNobody {
		t.Errorf("Of without deals: %d %v", v, e)
	}
}

func TestHandsAndChains(t *testing.T) { // P4.4
	for _, x := range []struct {
		t        api.Trade
		horse    int
		from, to int
		chains   rows
	}{
		{exampleS(), 0, 2, 3, rows{{0, 1, 0}, {0, 1, 2, 0}}}, {exampleS(), 1, 1, 2, rows{{1, 0}, {1, 2, 0}}},
		{exampleT(), 0, 2, 2, rows{{0, 1, 0}, {0, 1, 2}}}, {quiet(), 1, 0, 0, rows{{1}}}, {full(), 0, 6, 6, rows{{0, 1, 2, 0, 1, 2, 0}}},
		{trade(ints{0, 0}, deal(0, 1, 0, 1)), 1, 0, 1, rows{{0}, {0, 1}}}, {trade(ints{0}, deal(1, 0, 0), deal(2, 0, 0)), 0, 2, 2, rows{{0, 0, 0}}},
	} {
		if r, e := chain.Hands(x.t, x.horse); e != api.OK || r != (api.Range{From: x.from, To: x.to}) {
			t.Errorf("Hands of %v, horse %d: %v %v", x.t, x.horse, r, e)
		}
		if l := must[[][]int](t)(chain.Chains(x.t, x.horse)); !sameRows(l, x.chains) {
			t.Errorf("Chains of %v, horse %d: %v", x.t, x.horse, l)
		}
	}
}

func TestStruck(t *testing.T) { // P4.5
	for _, x := range []struct {
		t    api.Trade
		want ints
	}{
		{exampleS(), nil}, {exampleT(), nil}, {exampleU(), ints{0, 2}}, {quiet(), nil}, {full(), nil}, {unknown(), ints{0, 1, 2, 3, 4, 5}},
		{trade(ints{0}, deal(0, 1, 0), deal(0, 2, 0)), ints{0}}, {trade(ints{0}, deal(0, 1, 0), deal(2, 0, 0), deal(1, 2, 0)), ints{1}},
		{trade(ints{0}, deal(1, 2, 0), deal(2, 0, 0), deal(0, 1, 0)), ints{0, 1}},
	} {
		if l := must[[]int](t)(chain.Struck(x.t)); !slices.Equal(l, x.want) {
			t.Errorf("Struck of %v: %v", x.t, l)
		}
	}
}

func TestSuit(t *testing.T) { // P4.6
	for _, x := range []struct {
		t          api.Trade
		deal, lots int
		e          api.Errno
	}{
		{exampleS(), 1, 1, 0}, {exampleT(), 1, 1, 0}, {exampleU(), 1, 1, 0}, {quiet(), 0, 0, api.ErrVoid}, {full(), 0, 0, api.ErrVoid},
		{unknown(), 0, 243, 0}, {trade(ints{0, 1}, deal(1, 2, 0, 1)), 0, 0, api.ErrVoid},
		{trade(ints{0, 0, 0}, deal(2, 1, 0, 1), deal(2, 1, 0, 1, 2)), 1, 2, 0}, {trade(ints{0, 0, 0}, deal(0, 1, 0, 1), deal(0, 1, 1, 2)), 0, 2, 0},
	} {
		if d, n, e := chain.Suit(x.t); e != x.e || d != x.deal || n != x.lots {
			t.Errorf("Suit of %v: %d %d %v", x.t, d, n, e)
		}
	}
}

func TestDecide(t *testing.T) { // P4.6
	for _, x := range []struct {
		t     api.Trade
		horse int
		want  ints
	}{
		{exampleS(), 0, nil}, {exampleT(), 0, ints{1}}, {exampleT(), 1, ints{1}}, {quiet(), 0, nil}, {full(), 0, nil},
		{trade(ints{0, 0}, deal(1, 2, 0, 1)), 1, ints{0}}, {trade(ints{0, 0}, deal(0, 1, 0, 1), deal(0, 2, 0, 1)), 1, ints{0}},
		{trade(ints{0, 0, 0}, deal(0, 1, 0, 1), deal(0, 1, 1, 2)), 1, ints{0, 1}}, {trade(ints{0, 0, 0}, deal(0, 1, 0, 1), deal(0, 1, 1, 2)), 2, ints{1}},
		{unknown(), 0, ints{1, 2, 3, 4, 5}},
	} {
		if l := must[[]int](t)(chain.Decide(x.t, x.horse)); !slices.Equal(l, x.want) {
			t.Errorf("Decide of %v, horse %d: %v", x.t, x.horse, l)
		}
	}
}

func TestAdd(t *testing.T) { // P4.7
	for _, x := range []struct {
		t    api.Trade
		d    api.Deal
		want api.Errno
	}{
		{exampleS(), deal(1, 2, 0, 1), api.ErrFalse}, {exampleS(), deal(0, 2, 1), 0}, {exampleU(), deal(1, 2, 0, 1), 0}, {exampleT(), deal(2, 1, 0), 0},
		{exampleT(), deal(1, 2, 0), api.ErrFalse}, {quiet(), deal(2, 0, 0, 1), api.ErrFalse}, {quiet(), deal(1, 0, 0, 1), 0}, {full(), deal(0, 1, 0), api.ErrOver},
		{full(), deal(9, 9), api.ErrOver}, {without(full(), ints{5}), deal(2, 0, 0), 0}, {without(full(), ints{5}), deal(0, 2, 0), api.ErrFalse},
		{without(full(), ints{0}), deal(0, 2, 0), 0}, {without(full(), ints{5}), deal(2, 2, 9), api.ErrTwin}, {without(full(), ints{0}), deal(0, 2, 1), api.ErrNobody},
	} {
		want := then(x.t, x.d)
		if x.want != api.OK {
			want = api.Trade{}
		}
		if a, e := chain.Add(x.t, x.d); e != x.want || !sameTrade(a, want) {
			t.Errorf("Add of %v to %v: %v %v, not %v", x.d, x.t, a, e, x.want)
		}
	}
	for _, x := range refused() {
		for _, old := range []api.Trade{exampleS(), exampleU(), quiet()} {
			if a, e := chain.Add(old, x.d); e != x.want || !sameTrade(a, api.Trade{}) {
				t.Errorf("Add of %v to %v: %v %v, not %v", x.d, old, a, e, x.want)
			}
		}
	}
}

func TestAddOfAnyDeal(t *testing.T) { // P4.7
	d := dice(7)
	found := met{}
	for i, s := range samples(600) {
		last := d.deal(s.t)
		want, due := then(s.t, last), api.OK
		if len(s.t.Deals) == api.ChainDeals {
			want, due = api.Trade{}, api.ErrOver
		} else if s.broken == 0 && !modelSound(want) {
			want, due = api.Trade{}, api.ErrFalse
		}
		if a, e := chain.Add(s.t, last); e != due || !sameTrade(a, want) {
			t.Errorf("sample %d: Add of %v to %v: %v %v, not %v", i, last, s.t, a, e, due)
		}
		found[due.Error()]++
		if due == api.OK && s.broken > 0 {
			found["broken before"]++
		}
	}
	found.need(t, api.OK.Error(), api.ErrOver.Error(), api.ErrFalse.Error(), "broken before")
}
