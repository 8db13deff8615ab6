package bargain_test

import (
	"slices"
	"testing"

	"palfrey/api"
	"palfrey/bargain"
)

type ints = []int

func of(from, to int) api.Range { return api.Range{From: from, To: to} }

// exampleS is the bargain S of the chapter's examples, with what was said.
func exampleS(said ...int) api.Bargain {
	return api.Bargain{Ask: 10, Bid: 2, First: api.SellerSide, Step: of(2, 3), Seller: of(4, 6), Buyer: of(5, 8), Said: said}
}

func exampleT() api.Bargain { return exampleS(7, 5, -1) }

// free is a bargain in which the limits do not matter.
func free(ask, bid, first, step int) api.Bargain {
	return api.Bargain{Ask: ask, Bid: bid, First: first, Step: of(1, step), Seller: of(0, 0), Buyer: of(12, 12)}
}

// stuck is a bargain in which no price can be named, whatever the limits are.
func stuck() api.Bargain {
	return api.Bargain{Ask: 5, Bid: 4, First: api.BuyerSide, Step: of(2, 3), Seller: of(0, 5), Buyer: of(4, 9)}
}

// longest is a bargain that takes as many numbers as one can: the seller stands, and the buyer comes closer by one each time.
func longest(many int) api.Bargain {
	b := api.Bargain{Ask: 12, Bid: 0, First: api.SellerSide, Step: of(1, 1), Seller: of(0, 12), Buyer: of(0, 12)}
	for n := range many {
		b.Said = append(b.Said, []int{-1, n/2 + 1}[n%2])
	}
	return b
}

func change(b api.Bargain, how func(b *api.Bargain)) api.Bargain {
	how(&b)
	return b
}

func sameBargain(a, b api.Bargain) bool {
	said := slices.Equal(a.Said, b.Said)
	return said && a.Ask == b.Ask && a.Bid == b.Bid && a.First == b.First && a.Step == b.Step && a.Seller == b.Seller && a.Buyer == b.Buyer
}

type checked struct {
	name string
	b    api.Bargain
	want api.Errno
}

// with is S with a change. Most changes make something wrong, too, that is checked later.
func with(name string, want api.Errno, how func(b *api.Bargain)) checked {
	return checked{name, change(exampleS(), how), want}
}

func badPrices() []checked {
	return []checked{
		with("Ask 13, First 2", api.ErrFigure, func(b *api.Bargain) { b.Ask, b.First = 13, 2 }),
		with("Ask -1", api.ErrFigure, func(b *api.Bargain) { b.Ask = -1 }),
		with("Bid -1", api.ErrFigure, func(b *api.Bargain) { b.Bid = -1 }),
		with("Bid 13, above Ask", api.ErrFigure, func(b *api.Bargain) { b.Bid = 13 }),
		with("Bid as Ask, First 2", api.ErrTurn, func(b *api.Bargain) { b.Bid, b.First = 10, 2 }),
		with("Bid above Ask", api.ErrTurn, func(b *api.Bargain) { b.Ask, b.Bid = 2, 10 }),
		with("First 2, Step 0..0", api.ErrClass, func(b *api.Bargain) { b.First, b.Step = 2, of(0, 0) }),
		with("First -1, Step 3..2", api.ErrClass, func(b *api.Bargain) { b.First, b.Step = -1, of(3, 2) }),
	}
}

func badRanges() []checked {
	return []checked{
		with("Step 0..2, Seller 6..4", api.ErrFigure, func(b *api.Bargain) { b.Step, b.Seller = of(0, 2), of(6, 4) }),
		with("Step 2..4, Seller 6..4", api.ErrFigure, func(b *api.Bargain) { b.Step, b.Seller = of(2, 4), of(6, 4) }),
		with("Step 4..2", api.ErrFigure, func(b *api.Bargain) { b.Step = of(4, 2) }),
		with("Step 2..0", api.ErrFigure, func(b *api.Bargain) { b.Step = of(2, 0) }),
		with("Step 3..2, Seller -1..4", api.ErrTurn, func(b *api.Bargain) { b.Step, b.Seller = of(3, 2), of(-1, 4) }),
		with("Seller -1..4, Buyer 8..5", api.ErrFigure, func(b *api.Bargain) { b.Seller, b.Buyer = of(-1, 4), of(8, 5) }),
		with("Seller 4..11, Buyer 8..5", api.ErrFigure, func(b *api.Bargain) { b.Seller, b.Buyer = of(4, 11), of(8, 5) }),
		with("Seller 11..4", api.ErrFigure, func(b *api.Bargain) { b.Seller = of(11, 4) }),
		with("Seller 6..4, Buyer 1..8", api.ErrTurn, func(b *api.Bargain) { b.Seller, b.Buyer = of(6, 4), of(1, 8) }),
		with("Buyer 1..8, 25 numbers", api.ErrFigure, func(b *api.Bargain) { b.Buyer, b.Said = of(1, 8), make(ints, 25) }),
		with("Buyer 5..13, 25 numbers", api.ErrFigure, func(b *api.Bargain) { b.Buyer, b.Said = of(5, 13), make(ints, 25) }),
		with("Buyer 5..1", api.ErrFigure, func(b *api.Bargain) { b.Buyer = of(5, 1) }),
		with("Buyer 8..5, 25 numbers", api.ErrTurn, func(b *api.Bargain) { b.Buyer, b.Said = of(8, 5), make(ints, 25) }),
	}
}

func badSaid() []checked {
	return []checked{
		{"25 numbers, of which the last one comes too late", say(longest(24), 12), api.ErrOver},
		{"25 numbers, all wrong", exampleS(slices.Repeat(ints{13}, 25)...), api.ErrOver},
		{"-2", exampleS(-2), api.ErrFigure},
		{"13", exampleS(13), api.ErrFigure},
		{"-2, then 25", exampleS(-2, 25), api.ErrFigure},
		{"a step of 1", exampleS(9), api.ErrClass},
		{"a step of 4", exampleS(6), api.ErrClass},
		{"no step", exampleS(10), api.ErrClass},
		{"a step back", exampleS(12), api.ErrClass},
		{"beyond the limits, too", exampleS(3), api.ErrClass},
		{"a step of the wrong side", exampleS(4), api.ErrClass},
		{"above the asking price", exampleS(7, 5, -1, 8), api.ErrClass},
		{"below the bid", exampleS(7, 5, 4), api.ErrClass},
		{"an error of a later number", exampleS(8, 5, -1, 13), api.ErrFalse},
		{"standing with a price to name", exampleS(-1), api.ErrFalse},
		{"the buyer standing with a price to name", exampleS(7, -1), api.ErrFalse},
		{"below all limits of the seller", change(exampleS(7), func(b *api.Bargain) { b.Seller = of(8, 9) }), api.ErrFalse},
		{"above all limits of the buyer", change(exampleS(7, 5), func(b *api.Bargain) { b.Buyer = of(2, 4) }), api.ErrFalse},
		{"standing, then naming", change(exampleS(-1, 4, 8), func(b *api.Bargain) { b.Seller = of(0, 10) }), api.ErrFalse},
		{"behind the end", exampleS(8, 5, 5, 5), api.ErrShut},
		{"not a number, behind the end", exampleS(8, 5, 5, 13), api.ErrShut},
		{"standing, behind the end", exampleS(8, 5, 5, -1), api.ErrShut},
		{"behind the parting", exampleS(7, 5, -1, -1, 7), api.ErrShut},
		{"standing, behind the parting", exampleS(7, 5, -1, -1, -1), api.ErrShut},
	}
}

func allBad() []checked { return slices.Concat(badPrices(), badRanges(), badSaid()) }

func good() []api.Bargain {
	return []api.Bargain{
		exampleS(), exampleT(), stuck(), exampleS(7), exampleS(8, 5, 5), exampleS(7, 5, -1, 7), exampleS(7, 5, -1, -1), exampleS(8, 5, 6, -1),
		longest(23), longest(24), free(12, 0, 0, 3), free(1, 0, 1, 1), say(stuck(), -1), say(stuck(), -1, -1),
		{Ask: 12, Bid: 11, First: 1, Step: of(3, 3), Seller: of(12, 12), Buyer: of(11, 11)},
		{Ask: 10, Bid: 2, Step: of(1, 3), Seller: of(0, 10), Buyer: of(2, 12)},
	}
}

func TestCheckReturnsTheFirstError(t *testing.T) { // P3.1
	for i, b := range good() {
		if e := bargain.Check(b); e != api.OK {
			t.Errorf("good bargain %d: %v", i, e)
		}
	}
	for _, x := range allBad() {
		if e := bargain.Check(x.b); e != x.want {
			t.Errorf("%s: %v, not %v", x.name, e, x.want)
		}
	}
}

func TestCheckOfEachNumber(t *testing.T) { // P3.1: what may be said, one number after the other
	found := met{}
	for i, b := range samples(600) {
		if e := bargain.Check(b); e != api.OK {
			t.Errorf("sample %d: %v", i, e)
		}
		for n := -2; n <= api.MaxPrice+1; n++ {
			e := bargain.Check(say(b, n))
			if want := refused(b, n); len(b.Said) < api.MaxSaid && e != want {
				t.Errorf("sample %d: %v with %d: %v, not %v", i, b, n, e, want)
			}
			found[e.Error()]++
		}
	}
	found.need(t, api.OK.Error(), api.ErrShut.Error(), api.ErrFigure.Error(), api.ErrClass.Error(), api.ErrFalse.Error())
}

func TestNow(t *testing.T) { // P3.1
	for _, x := range []struct {
		b              api.Bargain
		ask, bid, turn int
	}{
		{exampleS(), 10, 2, 0}, {exampleT(), 7, 5, 1}, {exampleS(7, 5, -1, 7), 7, 7, -1}, {exampleS(7, 5, -1, -1), 7, 5, -1},
		{exampleS(8, 5, 5), 5, 5, -1}, {exampleS(8), 8, 2, 1}, {exampleS(8, 4), 8, 4, 0}, {stuck(), 5, 4, 1}, {say(stuck(), -1), 5, 4, 0},
		{longest(23), 12, 11, 1}, {longest(24), 12, 12, -1},
	} {
		if ask, bid, turn, e := bargain.Now(x.b); e != api.OK || ask != x.ask || bid != x.bid || turn != x.turn {
			t.Errorf("Now of %v: %d %d %d %v", x.b, ask, bid, turn, e)
		}
	}
	for i, b := range samples(400) {
		s := last(b)
		want := spot{s.ask, s.bid, s.turn, 0}
		if s.over() {
			want.turn = -1
		}
		if ask, bid, turn, e := bargain.Now(b); e != api.OK || (spot{ask, bid, turn, 0}) != want {
			t.Errorf("sample %d: Now is %d %d %d %v, not %v", i, ask, bid, turn, e, want)
		}
	}
}

func TestLimits(t *testing.T) { // P3.2
	for _, x := range []struct {
		b             api.Bargain
		seller, buyer api.Range
	}{
		{exampleS(), of(4, 6), of(5, 8)}, {exampleT(), of(6, 6), of(5, 8)}, {exampleS(7, 5, -1, 7), of(6, 6), of(7, 8)},
		{exampleS(7, 5, -1, -1), of(6, 6), of(5, 6)}, {exampleS(8, 5, 5), of(4, 5), of(5, 8)}, {say(stuck(), -1, -1), of(0, 5), of(4, 9)},
		{longest(1), of(12, 12), of(0, 12)}, {longest(2), of(12, 12), of(1, 12)}, {longest(24), of(12, 12), of(12, 12)},
	} {
		if s, m, e := bargain.Limits(x.b); e != api.OK || s != x.seller || m != x.buyer {
			t.Errorf("Limits of %v: %v %v %v", x.b, s, m, e)
		}
	}
}

func TestMoves(t *testing.T) { // P3.3
	for _, x := range []struct {
		b     api.Bargain
		limit int
		want  ints
		e     api.Errno
	}{
		{exampleS(), 4, ints{8, 7}, 0}, {exampleT(), 7, ints{7}, 0}, {exampleT(), 6, nil, 0}, {exampleT(), 4, nil, api.ErrFalse},
		{exampleT(), 9, nil, api.ErrFalse}, {exampleS(), 3, nil, api.ErrFalse}, {exampleS(), 8, nil, api.ErrFalse},
		{exampleS(7), 5, ints{4, 5}, 0}, {stuck(), 9, nil, 0}, {free(9, 3, 0, 3), 0, ints{8, 7, 6}, 0}, {free(5, 3, 1, 3), 12, ints{4, 5}, 0},
		{exampleS(8, 5, 5), 4, nil, api.ErrShut}, {exampleS(8, 5, 5), 99, nil, api.ErrShut}, {exampleS(7, 5, -1, -1), 6, nil, api.ErrShut},
	} {
		if l, e := bargain.Moves(x.b, x.limit); e != x.e || !slices.Equal(l, x.want) {
			t.Errorf("Moves of %v with %d: %v %v, not %v %v", x.b, x.limit, l, e, x.want, x.e)
		}
	}
	found := met{}
	for i, b := range open(samples(600)) {
		s := last(b)
		for limit := -1; limit <= api.MaxPrice+1; limit++ {
			l, e := bargain.Moves(b, limit)
			var want ints
			due := api.ErrFalse
			if slices.Contains(left(b, s.turn), limit) {
				want, due = names(b, s, limit), api.OK
			}
			if e != due || !slices.Equal(l, want) {
				t.Errorf("sample %d: Moves with %d is %v %v, not %v %v", i, limit, l, e, want, due)
			}
			found[[]string{"none", "one", "two", "three"}[len(l)]]++
		}
	}
	found.need(t, "none", "one", "two", "three")
}

func TestName(t *testing.T) { // P3.3
	for _, x := range []struct {
		b api.Bargain
		n int
		e api.Errno
	}{
		{exampleS(), 7, 0}, {exampleT(), 7, 0}, {exampleT(), -1, 0}, {exampleT(), 6, api.ErrClass}, {exampleS(), -1, api.ErrFalse},
		{exampleS(), 13, api.ErrFigure}, {exampleS(), -2, api.ErrFigure}, {exampleS(8, 5, 5), 13, api.ErrShut}, {exampleS(7, 5, -1, -1), -1, api.ErrShut},
		{stuck(), -1, 0}, {stuck(), 5, api.ErrClass}, {longest(23), 12, 0}, {longest(24), -1, api.ErrShut}, {longest(24), 12, api.ErrShut},
	} {
		b, e := bargain.Name(x.b, x.n)
		want := say(x.b, x.n)
		if x.e != api.OK {
			want = api.Bargain{}
		}
		if e != x.e || !sameBargain(b, want) {
			t.Errorf("Name of %v with %d: %v %v, not %v", x.b, x.n, b, e, x.e)
		}
	}
	for i, b := range samples(400) {
		for n := -2; n <= api.MaxPrice+1; n++ {
			want, due := say(b, n), refused(b, n)
			if due != api.OK {
				want = api.Bargain{}
			}
			if c, e := bargain.Name(b, n); e != due || !sameBargain(c, want) {
				t.Errorf("sample %d: Name with %d is %v %v, not %v %v", i, n, c, e, want, due)
			}
		}
	}
}

func TestPrice(t *testing.T) { // P3.4
	for _, x := range []struct {
		b                          api.Bargain
		seller, buyer, price, best int
		e                          api.Errno
	}{
		{exampleS(), 4, 8, 5, 8, 0}, {exampleS(), 4, 5, 4, 8, 0}, {exampleS(), 6, 8, 7, 7, 0}, {exampleS(), 6, 5, -1, 8, 0}, {exampleS(), 6, 6, 6, 8, 0},
		{exampleT(), 6, 6, -1, -1, 0}, {exampleT(), 6, 8, 7, 7, 0}, {stuck(), 0, 9, -1, -1, 0}, {exampleS(8, 5), 6, 8, -1, 6, 0},
		{exampleS(8, 5, 5), 4, 8, 5, 0, api.ErrShut}, {exampleS(7, 5, -1, -1), 6, 5, -1, 0, api.ErrShut}, {longest(24), 12, 12, 12, 0, api.ErrShut},
	} {
		if p, e := bargain.Price(x.b, x.seller, x.buyer); e != api.OK || p != x.price {
			t.Errorf("Price of %v with %d and %d: %d %v", x.b, x.seller, x.buyer, p, e)
		}
		if p, e := bargain.Best(x.b, x.seller, x.buyer); e != x.e || p != x.best {
			t.Errorf("Best of %v with %d and %d: %d %v", x.b, x.seller, x.buyer, p, e)
		}
	}
	for _, l := range [][2]int{{3, 8}, {7, 8}, {4, 4}, {4, 9}, {9, 1}, {-1, -1}} {
		p, e := bargain.Price(exampleS(), l[0], l[1])
		q, f := bargain.Best(exampleS(), l[0], l[1])
		if p != 0 || q != 0 || e != api.ErrFalse || f != api.ErrFalse {
			t.Errorf("limits %v: %d %v, %d %v", l, p, e, q, f)
		}
	}
	p, e := bargain.Price(exampleS(8, 5, 5), 6, 8)
	q, f := bargain.Best(exampleS(8, 5, 5), 6, 8)
	if p != 0 || e != api.ErrFalse || q != 0 || f != api.ErrShut {
		t.Errorf("a limit that is not left at the end: %d %v, %d %v", p, e, q, f)
	}
}

func TestPriceOfAllLimits(t *testing.T) { // P3.4, P3.5 and P0: exact over all pairs of limits
	found := met{}
	for i, b := range samples(600) {
		for _, l := range pairs(b) {
			want := modelPrice(b, last(b), l)
			if p, e := bargain.Price(b, l[0], l[1]); e != api.OK || p != want {
				t.Errorf("sample %d: Price with %v is %d %v, not %d", i, l, p, e, want)
			}
			if last(b).over() {
				found["over"]++
				continue
			}
			want = modelBest(b, l)
			if p, e := bargain.Best(b, l[0], l[1]); e != api.OK || p != want {
				t.Errorf("sample %d: Best with %v is %d %v, not %d", i, l, p, e, want)
			}
			if list := choices(b, last(b), l[last(b).turn]); want != list[0] {
				found["not the closest"]++
			}
		}
		want := modelOutcomes(b, 0)
		if l, e := bargain.Outcomes(b); e != api.OK || !slices.Equal(l, want) {
			t.Errorf("sample %d: Outcomes is %v %v, not %v", i, l, e, want)
		}
		v, e := bargain.Meets(b)
		if e != api.OK || v != modelMeets(want) {
			t.Errorf("sample %d: Meets is %d %v with %v", i, v, e, want)
		}
		found[[]string{"", "surely", "never", "maybe"}[v]]++
	}
	found.need(t, "over", "not the closest", "surely", "never", "maybe")
}

func TestOutcomesAndReach(t *testing.T) { // P3.5, P3.6
	for _, x := range []struct {
		b               api.Bargain
		outcomes, reach ints
		meets           int
	}{
		{exampleS(), ints{-1, 4, 5, 6, 7}, ints{-1, 4, 5, 6, 7}, api.MayBe}, {exampleT(), ints{-1, 7}, ints{-1, 7}, api.MayBe},
		{free(8, 0, 0, 3), ints{4}, ints{2, 3, 4, 5, 6}, api.Surely}, {stuck(), ints{-1}, ints{-1}, api.Never},
		{exampleS(8, 5, 5), ints{5}, ints{5}, api.Surely}, {exampleS(7, 5, -1, -1), ints{-1}, ints{-1}, api.Never},
		{free(1, 0, 0, 1), ints{0}, ints{0}, api.Surely}, {free(12, 11, 1, 1), ints{12}, ints{12}, api.Surely},
	} {
		if l, e := bargain.Outcomes(x.b); e != api.OK || !slices.Equal(l, x.outcomes) {
			t.Errorf("Outcomes of %v: %v %v", x.b, l, e)
		}
		if l, e := bargain.Reach(x.b); e != api.OK || !slices.Equal(l, x.reach) {
			t.Errorf("Reach of %v: %v %v", x.b, l, e)
		}
		if v, e := bargain.Meets(x.b); e != api.OK || v != x.meets {
			t.Errorf("Meets of %v: %d %v", x.b, v, e)
		}
	}
}

func TestSure(t *testing.T) { // P3.7
	for _, x := range []struct {
		b                 api.Bargain
		side, limit, want int
		e                 api.Errno
	}{
		{exampleS(), 0, 4, 4, 0}, {exampleS(), 0, 5, -1, 0}, {exampleT(), 1, 8, 7, 0}, {exampleT(), 1, 6, -1, 0}, {exampleT(), 0, 6, -1, 0},
		{free(8, 0, 0, 3), 0, 0, 4, 0}, {free(8, 0, 0, 3), 1, 12, 4, 0}, {stuck(), 0, 0, -1, 0},
		{exampleS(8, 5, 5), 0, 4, 5, 0}, {exampleS(8, 5, 5), 1, 8, 5, 0}, {exampleS(7, 5, -1, -1), 1, 6, -1, 0}, {exampleS(7, 5, -1, -1), 0, 6, -1, 0},
		{exampleS(), 2, 99, 0, api.ErrClass}, {exampleS(), -1, 5, 0, api.ErrClass}, {exampleS(), 0, 3, 0, api.ErrFalse}, {exampleS(), 0, 7, 0, api.ErrFalse},
		{exampleS(), 1, 4, 0, api.ErrFalse}, {exampleS(), 1, 9, 0, api.ErrFalse}, {exampleT(), 0, 5, 0, api.ErrFalse}, {exampleS(8, 5, 5), 0, 6, 0, api.ErrFalse},
	} {
		if p, e := bargain.Sure(x.b, x.side, x.limit); e != x.e || p != x.want {
			t.Errorf("Sure of %v for %d with %d: %d %v, not %d %v", x.b, x.side, x.limit, p, e, x.want, x.e)
		}
	}
}

func TestNarrowedAndPenny(t *testing.T) { // P3.8
	for _, x := range []struct {
		b        api.Bargain
		narrowed ints
		penny    int
		e        api.Errno
	}{
		{exampleS(), nil, 1, 0}, {exampleT(), ints{2}, 2, 0}, {exampleS(8, 4, 6, 6), ints{3}, 0, 0}, {exampleS(7, 5, -1, -1), ints{2, 3}, 0, api.ErrVoid},
		{exampleS(8, 5, 5), ints{2}, 0, 0}, {stuck(), nil, 0, api.ErrVoid}, {say(stuck(), -1), nil, 0, api.ErrVoid}, {free(8, 0, 0, 3), nil, 0, 0},
		{longest(6), ints{0, 1, 3, 5}, 9, 0}, {longest(24), ints{0, 1, 3, 5, 7, 9, 11, 13, 15, 17, 19, 21, 23}, 0, 0},
		{change(longest(0), func(b *api.Bargain) { b.Seller, b.Buyer = of(12, 12), of(0, 0) }), nil, 12, 0},
		{change(longest(0), func(b *api.Bargain) { b.Seller, b.Buyer = of(12, 12), of(2, 12) }), nil, 10, 0},
	} {
		if l, e := bargain.Narrowed(x.b); e != api.OK || !slices.Equal(l, x.narrowed) {
			t.Errorf("Narrowed of %v: %v %v", x.b, l, e)
		}
		if n, e := bargain.Penny(x.b); e != x.e || n != x.penny {
			t.Errorf("Penny of %v: %d %v", x.b, n, e)
		}
	}
}

func TestCheckOfTheExamples(t *testing.T) { // P3.1
	for _, x := range []checked{
		{"S", exampleS(), api.OK},
		with("Bid 10", api.ErrTurn, func(b *api.Bargain) { b.Bid = 10 }),
		with("Step 3..2", api.ErrTurn, func(b *api.Bargain) { b.Step = of(3, 2) }),
		{"Said 9", exampleS(9), api.ErrClass},
		{"Said 8 5 5 5", exampleS(8, 5, 5, 5), api.ErrShut},
		{"Said 3", exampleS(3), api.ErrClass},
	} {
		if e := bargain.Check(x.b); e != x.want {
			t.Errorf("%s: %v, not %v", x.name, e, x.want)
		}
	}
}
