package debt

import (
	"cmp"
	"iter"
	"maps"
	"slices"
	"sync"

	"palfrey/api"
)

// purse is how many coins there are of each number of pounds. What there is none of is no key of it.
type purse map[int]int

// with returns a copy of the purse with the coins of another one, too.
func (p purse) with(coins purse) purse {
	q := maps.Clone(p)
	for c, many := range coins {
		q[c] += many
	}
	return q
}

// without returns a copy of the purse without the coins of another one, all of which it has.
func (p purse) without(coins purse) purse {
	q := maps.Clone(p)
	for c, many := range coins {
		q[c] -= many
		if q[c] == 0 {
			delete(q, c)
		}
	}
	return q
}

// takes yields all coins of the purse that are just as many pounds together.
func (p purse) takes(pounds int) iter.Seq[purse] {
	return func(yield func(purse) bool) {
		taken := purse{}
		var take func(coin, left int) bool
		take = func(coin, left int) bool {
			if left == 0 {
				return yield(maps.Clone(taken))
			}
			if coin == 0 {
				return true
			}
			defer delete(taken, coin)
			for many := 0; many <= p[coin] && many*coin <= left; many++ {
				if many > 0 {
					taken[coin] = many
				}
				if !take(coin-1, left-many*coin) {
					return false
				}
			}
			return true
		}
		take(api.MaxCoin, pounds)
	}
}

// purses is what each person has. It is not changed once it is made.
type purses []purse

func (w *work) purses() purses {
	var all purses
	for _, coins := range w.Purses {
		p := purse{}
		for _, c := range coins {
			p[c]++
		}
		all = append(all, p)
	}
	return all
}

func (all purses) after(p pay, coins purse) purses {
	next := slices.Clone(all)
	next[p.From] = all[p.From].without(coins)
	next[p.To] = all[p.To].with(coins)
	return next
}

// place is which payments are made, and how many coins of which pounds each person has then. No two payments are between the same two persons, so that a pair is one of them.
type place struct {
	made  pairs
	coins [api.MaxPeople][api.MaxCoin + 1]int8
}

func (all purses) place(made pairs) place {
	at := place{made: made}
	for i, p := range all {
		for c, many := range p {
			at.coins[i][c] = int8(many)
		}
	}
	return at
}

// first keeps the first one, in lexicographic order, of all lists that are offered.
type first[T cmp.Ordered] struct {
	list  []T
	found bool
}

func (f *first[T]) offer(list []T) {
	if !f.found || slices.Compare(list, f.list) < 0 {
		f.list, f.found = list, true
	}
}

// search looks for orders of payments, and looks at no place twice.
type search struct {
	pays  []pay
	known map[place]first[int]
}

// rest returns the first order of all payments that are not made, if they can be made.
func (s *search) rest(made pairs, all purses) first[int] {
	at := all.place(made)
	if f, there := s.known[at]; there {
		return f
	}
	var f first[int]
	if made.count() == len(s.pays) {
		f.offer(nil)
	}
	for i, p := range s.pays {
		if !made.has(p.From, p.To) && !f.found {
			s.begin(i, made, all, f.offer)
		}
	}
	s.known[at] = f
	return f
}

// begin offers, for all coins that the payment can be made with, the first order that begins with it.
func (s *search) begin(i int, made pairs, all purses, offer func([]int)) {
	p := s.pays[i]
	for coins := range all[p.From].takes(p.Pounds) {
		if f := s.rest(made.with(p.From, p.To), all.after(p, coins)); f.found {
			offer(append([]int{i}, f.list...))
		}
	}
}

// order tries side by side what can follow each first payment. In which order they are offered does not matter, since the first one is kept.
func (w *work) order(pays []pay) ([]int, error) {
	if len(pays) == 0 {
		return nil, nil
	}
	var kept first[int]
	var lock sync.Mutex
	var wait sync.WaitGroup
	offer := kept.offer
	for i := range pays {
		wait.Add(1)
		go func() {
			defer wait.Done()
			var found first[int]
			s := search{pays, map[place]first[int]{}}
			s.begin(i, 0, w.purses(), found.offer)
			lock.Lock()
			defer lock.Unlock()
			if found.found {
				offer(found.list)
			}
		}()
	}
	wait.Wait()
	if !kept.found {
		return nil, fault{api.ErrVoid}
	}
	return kept.list, nil
}

// exact is a settlement, and an order in which it can be made.
type exact struct {
	pays  []pay
	order []int
}

func (w *work) exact() (exact, error) {
	for _, pays := range w.fewest() {
		if order, err := w.order(pays); err == nil {
			return exact{pays, order}, nil
		}
	}
	return exact{}, fault{api.ErrVoid}
}
