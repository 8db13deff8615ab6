package bargain_test

import (
	"slices"
	"testing"

	"palfrey/api"
	"palfrey/bargain"
)

// must returns what a call has returned, and makes an error of it that it should not have returned.
func must[T any](t *testing.T) func(v T, e api.Errno) T {
	return func(v T, e api.Errno) T {
		t.Helper()
		if e != api.OK {
			t.Errorf("%v", e)
		}
		return v
	}
}

// met makes sure that a test has met each of the cases that it is about.
type met map[string]int

func (m met) need(t *testing.T, cases ...string) {
	t.Helper()
	for _, c := range cases {
		if m[c] == 0 {
			t.Errorf("no sample was about: %s", c)
		}
	}
}

func all(list, others []int) bool {
	return !slices.ContainsFunc(list, func(n int) bool { return !slices.Contains(others, n) })
}

func limits(t *testing.T, b api.Bargain) [2]api.Range {
	t.Helper()
	s, m, e := bargain.Limits(b)
	if e != api.OK {
		t.Errorf("Limits of %v: %v", b, e)
	}
	return [2]api.Range{s, m}
}

// only returns the bargain if the side can have no other limit.
func only(b api.Bargain, side, limit int) api.Bargain {
	if side == api.SellerSide {
		b.Seller = of(limit, limit)
	} else {
		b.Buyer = of(limit, limit)
	}
	return b
}

func TestLimitsThatAreLeft(t *testing.T) { // P3.9, and Limits of P3.2
	found := met{}
	for i, b := range samples(800) {
		both := limits(t, b)
		for side, r := range both {
			if l := left(b, side); !slices.Equal(l, numbers(r.From, r.To)) {
				t.Errorf("sample %d: Limits of %d is %v, not %v", i, side, r, l)
			}
			for _, limit := range within(b, side) {
				want := api.ErrFalse
				if r.From <= limit && limit <= r.To {
					want = api.OK
				}
				if e := bargain.Check(only(b, side, limit)); e != want {
					t.Errorf("sample %d: with the limit %d of %d alone: %v, not %v", i, limit, side, e, want)
				}
				found[want.Error()]++
			}
		}
	}
	found.need(t, api.OK.Error(), api.ErrFalse.Error())
}

func TestBestIsBest(t *testing.T) { // P3.10
	found := met{}
	for i, b := range open(samples(600)) {
		side := last(b).turn
		for _, l := range pairs(b) {
			price := must[int](t)(bargain.Price(b, l[0], l[1]))
			best := must[int](t)(bargain.Best(b, l[0], l[1]))
			moves := must[[]int](t)(bargain.Moves(b, l[side]))
			after := func(n int) int {
				c := must[api.Bargain](t)(bargain.Name(b, n))
				return must[int](t)(bargain.Price(c, l[0], l[1]))
			}
			if p := after(best); p != price {
				t.Errorf("sample %d: with %v Price is %d, and %d after %d", i, l, price, p, best)
			}
			if len(moves) == 0 {
				found["stands"]++
				if best != -1 {
					t.Errorf("sample %d: with %v Best is %d, but it stands", i, l, best)
				}
				continue
			}
			for _, n := range moves {
				p := after(n)
				if betterFor(side, p, price) || p == price && slices.Index(moves, n) < slices.Index(moves, best) {
					t.Errorf("sample %d: with %v Price is %d after %d, and %d after %d", i, l, p, n, price, best)
				}
				if betterFor(side, price, p) {
					found["worse"]++
				}
				if p == price && n != best {
					found["as good"]++
				}
			}
		}
	}
	found.need(t, "stands", "worse", "as good")
}

func TestPriceIsWithin(t *testing.T) { // P3.11
	found := met{}
	for i, b := range samples(600) {
		ask, bid, _, _ := bargain.Now(b)
		for _, l := range pairs(b) {
			p := must[int](t)(bargain.Price(b, l[0], l[1]))
			if p == -1 {
				found["part"]++
				continue
			}
			found["meet"]++
			if p < bid || p > ask || p < l[0] || p > l[1] {
				t.Errorf("sample %d: Price with %v is %d, prices are %d and %d", i, l, p, ask, bid)
			}
		}
	}
	found.need(t, "part", "meet")
}

func TestReach(t *testing.T) { // P3.12, and Reach of P3.6
	d := dice(12)
	found := met{}
	for i, b := range samples(800) {
		reach := must[[]int](t)(bargain.Reach(b))
		outcomes := must[[]int](t)(bargain.Outcomes(b))
		if want := modelReach(b); !slices.Equal(reach, want) {
			t.Errorf("sample %d: Reach is %v, not %v", i, reach, want)
		}
		if !all(outcomes, reach) {
			t.Errorf("sample %d: Outcomes is %v, Reach %v", i, outcomes, reach)
		}
		if len(outcomes) < len(reach) {
			found["more than Outcomes"]++
		}
		for range 5 {
			end := last(play(t, &d, b)).end()
			if !slices.Contains(reach, end) {
				t.Errorf("sample %d: Reach is %v, without %d", i, reach, end)
			}
			if !slices.Contains(outcomes, end) {
				found["not an outcome"]++
			}
		}
	}
	found.need(t, "more than Outcomes", "not an outcome")
}

// play goes on until the bargain is over, with some limits that are left.
func play(t *testing.T, d *dice, b api.Bargain) api.Bargain {
	both := [2]int{d.one(left(b, 0)), d.one(left(b, 1))}
	for {
		_, _, turn, e := bargain.Now(b)
		if turn == -1 || e != api.OK {
			return b
		}
		n := -1
		if moves := must[[]int](t)(bargain.Moves(b, both[turn])); len(moves) > 0 {
			n = d.one(moves)
		}
		b = must[api.Bargain](t)(bargain.Name(b, n))
	}
}

func TestSureWhateverTheLimit(t *testing.T) { // P3.13, and Sure of P3.7
	found := met{}
	for i, b := range samples(600) {
		for side := range 2 {
			for _, limit := range left(b, side) {
				sure := must[int](t)(bargain.Sure(b, side, limit))
				if want := modelSure(b, side, limit); sure != want {
					t.Errorf("sample %d: Sure of %d with %d is %d, not %d", i, side, limit, sure, want)
				}
				for _, other := range left(b, 1-side) {
					l := [2]int{limit, other}
					if side == api.BuyerSide {
						l = [2]int{other, limit}
					}
					p := must[int](t)(bargain.Price(b, l[0], l[1]))
					if betterFor(side, sure, p) {
						t.Errorf("sample %d: Sure of %d with %d is %d, Price with %v is %d", i, side, limit, sure, l, p)
					}
					if betterFor(side, p, sure) && sure != -1 {
						found["Price is better"]++
					}
				}
				if sure != -1 && !last(b).over() {
					found["sure"]++
				}
			}
		}
	}
	found.need(t, "Price is better", "sure")
}

func TestNarrowed(t *testing.T) { // P3.14, and Narrowed of P3.8
	found := met{}
	for i, b := range samples(800) {
		got := must[[]int](t)(bargain.Narrowed(b))
		if want := modelNarrowed(b); !slices.Equal(got, want) {
			t.Errorf("sample %d: Narrowed is %v, not %v", i, got, want)
		}
		for n, said := range b.Said {
			fewer := limits(t, cut(b, n)) != limits(t, cut(b, n+1))
			if fewer != slices.Contains(got, n) {
				t.Errorf("sample %d: Narrowed is %v, and limits are fewer after %d: %v", i, got, n, fewer)
			}
			switch {
			case fewer && said == -1:
				found["by standing"]++
			case fewer:
				found["by naming"]++
			case said == -1:
				found["not by standing"]++
			default:
				found["not by naming"]++
			}
		}
	}
	found.need(t, "by standing", "by naming", "not by standing", "not by naming")
}

func TestWhatIsSaidLeavesNoMore(t *testing.T) { // P3.15
	for i, b := range open(samples(600)) {
		before, reach := limits(t, b), must[[]int](t)(bargain.Reach(b))
		for _, n := range sayable(b) {
			c := must[api.Bargain](t)(bargain.Name(b, n))
			for side, r := range limits(t, c) {
				if r.From < before[side].From || r.To > before[side].To || r.From > r.To {
					t.Errorf("sample %d: the limits %v, after %d %v", i, before[side], n, r)
				}
			}
			if after := must[[]int](t)(bargain.Reach(c)); !all(after, reach) || len(after) == 0 {
				t.Errorf("sample %d: Reach is %v, after %d %v", i, reach, n, after)
			}
		}
	}
}

func TestPenny(t *testing.T) { // P3.16, and Penny of P3.8
	found := met{}
	for i, b := range samples(800) {
		n, e := bargain.Penny(b)
		want, due := modelPenny(b)
		if n != want || e != due {
			t.Errorf("sample %d: Penny is %d %v, not %d %v", i, n, e, want, due)
		}
		if n > 0 && b.Buyer.To+n > api.MaxPrice {
			found["beyond MaxPrice"]++
		}
		if n > 0 && last(b).stands > 0 {
			found["after standing"]++
		}
		found[[]string{"none", "one", "more"}[min(n, 2)]]++
		found[e.Error()]++
	}
	found.need(t, "beyond MaxPrice", "after standing", "none", "one", "more", api.OK.Error(), api.ErrVoid.Error())
}

// turned returns the bargain with all prices MaxPrice less what they were, and the sides in each other's place.
func turned(b api.Bargain) api.Bargain {
	back := func(r api.Range) api.Range { return of(api.MaxPrice-r.To, api.MaxPrice-r.From) }
	said := turnedPrices(b.Said)
	return api.Bargain{Ask: api.MaxPrice - b.Bid, Bid: api.MaxPrice - b.Ask, First: 1 - b.First, Step: b.Step, Seller: back(b.Buyer), Buyer: back(b.Seller), Said: said}
}

func turnedPrices(list []int) []int {
	l := slices.Clone(list)
	for i, n := range l {
		if n != -1 {
			l[i] = api.MaxPrice - n
		}
	}
	return l
}

// higher returns the bargain with all prices and limits greater by more.
func higher(b api.Bargain, more int) api.Bargain {
	b.Said = higherPrices(b.Said, more)
	b.Ask, b.Bid = b.Ask+more, b.Bid+more
	b.Seller, b.Buyer = of(b.Seller.From+more, b.Seller.To+more), of(b.Buyer.From+more, b.Buyer.To+more)
	return b
}

func higherPrices(list []int, more int) []int {
	l := slices.Clone(list)
	for i, n := range l {
		if n != -1 {
			l[i] = n + more
		}
	}
	return l
}

// image is a bargain b that is another one's image: prices makes the prices of it from those of the other one, limit a limit.
type image struct {
	a, b    api.Bargain
	prices  func(list []int) []int
	limit   func(n int) int
	changed bool // the sides are in each other's place
}

func (x image) sides(n int) int {
	if x.changed && n != -1 {
		return 1 - n
	}
	return n
}

func (x image) limits(l [2]int) [2]int {
	if x.changed {
		l[0], l[1] = l[1], l[0]
	}
	return [2]int{x.limit(l[0]), x.limit(l[1])}
}

// same compares all that is returned of both bargains but Penny.
func (x image) same(t *testing.T, name string) {
	t.Helper()
	equal := func(call string, a, b []int) {
		t.Helper()
		if want := x.prices(a); !slices.Equal(b, want) {
			t.Errorf("%s: %s of %v is %v, of %v %v, not %v", name, call, x.a, a, x.b, b, want)
		}
	}
	sorted := func(call string, a, b []int) {
		t.Helper()
		l := x.prices(a)
		slices.Sort(l)
		if !slices.Equal(b, l) {
			t.Errorf("%s: %s of %v is %v, of %v %v, not %v", name, call, x.a, a, x.b, b, l)
		}
	}
	if e := bargain.Check(x.b); e != api.OK {
		t.Errorf("%s: Check of %v: %v", name, x.b, e)
	}
	ask, bid, turn, _ := bargain.Now(x.a)
	y, z, side, _ := bargain.Now(x.b)
	if x.changed {
		y, z = z, y
	}
	equal("Now", ints{ask, bid}, ints{y, z})
	if side != x.sides(turn) {
		t.Errorf("%s: the turn of %v is %d, of %v %d", name, x.a, turn, x.b, side)
	}
	r, q := limits(t, x.a), limits(t, x.b)
	sorted("Limits", ints{r[0].From, r[0].To}, ints{q[x.sides(0)].From, q[x.sides(0)].To})
	sorted("Limits", ints{r[1].From, r[1].To}, ints{q[x.sides(1)].From, q[x.sides(1)].To})
	sorted("Outcomes", must[[]int](t)(bargain.Outcomes(x.a)), must[[]int](t)(bargain.Outcomes(x.b)))
	sorted("Reach", must[[]int](t)(bargain.Reach(x.a)), must[[]int](t)(bargain.Reach(x.b)))
	if m, n := must[int](t)(bargain.Meets(x.a)), must[int](t)(bargain.Meets(x.b)); m != n {
		t.Errorf("%s: Meets of %v is %d, of %v %d", name, x.a, m, x.b, n)
	}
	if m, n := must[[]int](t)(bargain.Narrowed(x.a)), must[[]int](t)(bargain.Narrowed(x.b)); !slices.Equal(m, n) {
		t.Errorf("%s: Narrowed of %v is %v, of %v %v", name, x.a, m, x.b, n)
	}
	x.samePrices(t, equal, turn)
}

func (x image) samePrices(t *testing.T, equal func(call string, a, b []int), turn int) {
	t.Helper()
	for _, l := range pairs(x.a) {
		k := x.limits(l)
		one := func(n int, e api.Errno) []int { return ints{must[int](t)(n, e)} }
		equal("Price", one(bargain.Price(x.a, l[0], l[1])), one(bargain.Price(x.b, k[0], k[1])))
		for side := range 2 {
			equal("Sure", one(bargain.Sure(x.a, side, l[side])), one(bargain.Sure(x.b, x.sides(side), k[x.sides(side)])))
		}
		if turn == -1 {
			continue
		}
		equal("Best", one(bargain.Best(x.a, l[0], l[1])), one(bargain.Best(x.b, k[0], k[1])))
		equal("Moves", must[[]int](t)(bargain.Moves(x.a, l[turn])), must[[]int](t)(bargain.Moves(x.b, k[x.sides(turn)])))
	}
	for n := -1; n <= api.MaxPrice && turn != -1; n++ {
		said := x.prices(ints{n})[0]
		if n != -1 && (said < 0 || said > api.MaxPrice) {
			continue
		}
		c, e := bargain.Name(x.a, n)
		d, f := bargain.Name(x.b, said)
		if e == api.OK && f == api.OK {
			equal("Name", c.Said, d.Said)
		}
		if e != f {
			t.Errorf("Name of %v with %d: %v, of %v with %d: %v", x.a, n, e, x.b, said, f)
		}
	}
}

func TestTurnedRound(t *testing.T) { // P3.17
	found := met{}
	for i, b := range samples(600) {
		c := turned(b)
		image{b, c, turnedPrices, func(n int) int { return api.MaxPrice - n }, true}.same(t, "turned round")
		// Turned round Penny is what the seller's limit must be less by.
		want, due := 0, api.ErrVoid
		for less := api.MaxPrice; less >= 0; less-- {
			if !slices.ContainsFunc(pairs(b), func(l [2]int) bool { return modelPrice(b, last(b), [2]int{l[0] - less, l[1]}) == -1 }) {
				want, due = less, api.OK
			}
		}
		n, e := bargain.Penny(c)
		if n != want || e != due {
			t.Errorf("sample %d: Penny turned round is %d %v, not %d %v", i, n, e, want, due)
		}
		if m, f := bargain.Penny(b); m != n || e != f {
			found["another Penny"]++
		}
	}
	found.need(t, "another Penny")
}

func TestHigher(t *testing.T) { // P3.18
	found := met{}
	for i, b := range samples(600) {
		for more := -api.MaxPrice; more <= api.MaxPrice; more++ {
			c := higher(b, more)
			if c.Ask > api.MaxPrice || c.Buyer.To > api.MaxPrice || c.Bid < 0 || c.Seller.From < 0 || more == 0 {
				continue
			}
			found["higher or lower"]++
			prices := func(list []int) []int { return higherPrices(list, more) }
			image{b, c, prices, func(n int) int { return n + more }, false}.same(t, "higher")
			n, e := bargain.Penny(b)
			if m, f := bargain.Penny(c); m != n || f != e {
				t.Errorf("sample %d: Penny is %d %v, higher by %d %d %v", i, n, e, more, m, f)
			}
		}
	}
	found.need(t, "higher or lower")
}

func TestItEnds(t *testing.T) { // P3.19
	d := dice(19)
	found := met{}
	for range 2000 {
		b := d.fresh()
		c := play(t, &d, b)
		if len(c.Said) > 2*(b.Ask-b.Bid) || !last(c).over() {
			t.Errorf("%v ends after %d turns", c, len(c.Said))
		}
		if len(c.Said) == 2*(b.Ask-b.Bid) {
			found["just as many turns"]++
		}
	}
	found.need(t, "just as many turns")
	for n := range api.MaxSaid {
		if _, _, turn, e := bargain.Now(longest(n)); e != api.OK || turn != n%2 {
			t.Errorf("the longest bargain after %d turns: %d %v", n, turn, e)
		}
	}
	if _, _, turn, e := bargain.Now(longest(api.MaxSaid)); e != api.OK || turn != -1 {
		t.Errorf("the longest bargain: %d %v", turn, e)
	}
}

func TestKnownLimits(t *testing.T) { // P3.20
	found := met{}
	for i, b := range samples(600) {
		for _, l := range pairs(b) {
			c := only(only(b, 0, l[0]), 1, l[1])
			p := must[int](t)(bargain.Price(c, l[0], l[1]))
			if q := must[int](t)(bargain.Price(b, l[0], l[1])); p != q {
				t.Errorf("sample %d: Price with %v is %d, %d if they are known", i, l, q, p)
			}
			if list := must[[]int](t)(bargain.Outcomes(c)); !slices.Equal(list, ints{p}) {
				t.Errorf("sample %d: Outcomes with %v is %v, Price %d", i, l, list, p)
			}
			want := api.Surely
			if p == -1 {
				want = api.Never
			}
			if v := must[int](t)(bargain.Meets(c)); v != want {
				t.Errorf("sample %d: Meets with %v is %d, Price %d", i, l, v, p)
			}
			found[[]string{"", "meet", "part"}[want]]++
		}
	}
	found.need(t, "meet", "part")
}

func TestHalf(t *testing.T) { // P3.21
	for bid := range api.MaxPrice {
		for ask := bid + 1; ask <= api.MaxPrice; ask++ {
			half := (ask - bid + 1) / 2
			for step := 1; step <= api.MaxStep; step++ {
				a, b := free(ask, bid, api.SellerSide, step), free(ask, bid, api.BuyerSide, step)
				if p := must[int](t)(bargain.Price(a, 0, 12)); p != ask-half {
					t.Errorf("Price of %v is %d", a, p)
				}
				if p := must[int](t)(bargain.Price(b, 0, 12)); p != bid+half {
					t.Errorf("Price of %v is %d", b, p)
				}
			}
		}
	}
}
