package bargain

// through goes through all games that go on from the place, and finds what they come to from the end: what a price at the end is, and what comes of all plays of a place together.
func through[T any](w *work, start place, end func(price int) T, together func(p place, all []T) T) T {
	known := map[place]T{}
	var visit func(p place) T
	visit = func(p place) (v T) {
		if v, ok := known[p]; ok {
			return v
		}
		defer func() {
			switch r := recover().(type) {
			case nil:
			case ended:
				v = end(r.price)
			default:
				panic(r)
			}
			known[p] = v
		}()
		var all []T
		for _, next := range w.plays(p) {
			all = append(all, visit(next))
		}
		return together(p, all)
	}
	return visit(start)
}

// top keeps the first of what is best.
type top[T any] struct {
	better func(a, b T) bool
	value  T
	found  bool
}

func (t *top[T]) offer(v T) {
	if !t.found || t.better(v, t.value) {
		t.value, t.found = v, true
	}
}

func topPrice(better func(a, b int) bool, all []int) int {
	t := top[int]{better: better}
	for _, price := range all {
		t.offer(price)
	}
	return t.value
}

func (w *work) play(p place, better func(p place) func(a, b int) bool) int {
	end := func(price int) int { return price }
	return through(w, p, end, func(p place, all []int) int { return topPrice(better(p), all) })
}

// price needs a place with one limit left to each side.
func (w *work) price(p place) int {
	return w.play(p, func(p place) func(a, b int) bool { return p.side().better })
}

// sure takes the other side for one that wants what is worst for this one, with any limit that agrees with what it says.
func (w *work) sure(turn, limit int) int {
	s := sideOf(turn)
	worse := func(a, b int) bool { return s.better(b, a) }
	return w.play(w.now().withLimit(s, limit), func(p place) func(a, b int) bool {
		if p.turn == turn {
			return s.better
		}
		return worse
	})
}

// option is a number that may be said, and the price in the end.
type option struct{ number, price int }

func (w *work) best(p place) int {
	s := p.side()
	t := top[option]{better: func(a, b option) bool { return s.better(a.price, b.price) }}
	for n, next := range w.plays(p) {
		t.offer(option{n, w.price(next)})
	}
	return t.value.number
}

func (w *work) reach() met {
	return through(w, w.now(), met{}.with, func(_ place, all []met) met {
		var m met
		for _, prices := range all {
			for _, price := range prices.list() {
				m = m.with(price)
			}
		}
		return m
	})
}

// outcomes returns the prices for all limits that are left if each of the buyer is greater by more. A goroutine for each limit of the seller sends its prices, and then that it has done; in which order they come does not matter to a set.
func (w *work) outcomes(more int) met {
	p := w.now()
	prices, done := make(chan int), make(chan bool)
	working := p.seller.To - p.seller.From + 1
	for i := range working {
		go func() {
			sells := p.withLimit(seller{}, p.seller.From+i)
			for n := range p.buyer.To - p.buyer.From + 1 {
				prices <- w.price(sells.withLimit(buyer{}, p.buyer.From+n+more))
			}
			done <- true
		}()
	}
	var m met
	for working > 0 {
		select {
		case price := <-prices:
			m = m.with(price)
		case <-done:
			working--
		}
	}
	return m
}
