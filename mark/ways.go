package mark

import (
	"cmp"
	"iter"
	"slices"
	"sync"

	"palfrey/api"
)

// parting is a way, or the beginning of one: its horses, in the order of their first entries.
type parting []horse

func (p parting) of(n int) horse {
	for _, h := range p {
		if h.has(n) {
			return h
		}
	}
	return horse{}
}

func (p parting) joins(x, y int) bool { return p.of(x) == p.of(y) }

// numbers returns the way as it is written: the number of the horse of each entry.
func (p parting) numbers(entries int) []int {
	list := make([]int, entries)
	for n := range list {
		list[n] = slices.Index(p, p.of(n))
	}
	return list
}

// ways yields, in lexicographic order, all that start can become if the entries of rest are put to its horses, or to new ones.
func (w *work) ways(start parting, rest []int) iter.Seq[parting] {
	return func(yield func(parting) bool) {
		horses := make(parting, len(start)+len(rest))
		copy(horses, start)
		var fill func(used int, rest []int) bool
		put := func(i, used int, rest []int) bool {
			before := horses[i]
			defer func() { horses[i] = before }()
			horses[i] = before.with(rest[0])
			return !w.can[horses[i]] || fill(max(used, i+1), rest[1:])
		}
		fill = func(used int, rest []int) bool {
			if len(rest) == 0 {
				return yield(slices.Clone(horses[:used]))
			}
			for i := range min(used+1, w.Most) {
				if !put(i, used, rest) {
					return false
				}
			}
			return true
		}
		fill(len(start), rest)
	}
}

func (w *work) entries() []int {
	return which(len(w.Entries), func(int) bool { return true })
}

func (w *work) all() iter.Seq[parting] { return w.ways(nil, w.entries()) }

func (w *work) parted() bool {
	for range w.all() {
		return true
	}
	return false
}

// count shares the work out by how ways begin. The channel has room for all counts, so that no goroutine waits for it to be read.
func (w *work) count() int {
	list := w.entries()
	half := len(list) / 2
	starts := slices.Collect(w.ways(nil, list[:half]))
	counts := make(chan int, len(starts))
	var wait sync.WaitGroup
	for _, start := range starts {
		wait.Add(1)
		go func() {
			defer wait.Done()
			n := 0
			for range w.ways(start, list[half:]) {
				n++
			}
			counts <- n
		}()
	}
	wait.Wait()
	close(counts)
	sum := 0
	for n := range counts {
		sum += n
	}
	return sum
}

func (w *work) tally(holds func(parting) bool) (yes, no int) {
	for v := range w.all() {
		if holds(v) {
			yes++
		} else {
			no++
		}
	}
	return yes, no
}

// verdict needs a way. What holds in some ways and not in others is told as both at once: MayBe is Surely and Never together.
func (w *work) verdict(holds func(parting) bool) int {
	v := 0
	switch yes, no := w.tally(holds); {
	case yes > 0 && no > 0:
		v |= api.Never
		fallthrough
	case yes > 0:
		v |= api.Surely
	default:
		v = api.Never
	}
	return v
}

// through returns none if x and y are one horse in no way; otherwise x is in each list.
func (w *work) through(x, y int) []int {
	var lists [][]int
	for v := range w.all() {
		if v.joins(x, y) {
			lists = append(lists, v.of(x).list())
		}
	}
	return intersect(lists...)
}

// groups needs a way: then each entry goes through itself.
func (w *work) groups() []int {
	var list []int
	next := 0
	for n := range w.Entries {
		first := w.through(n, n)[0]
		if first < n {
			list = append(list, list[first])
			continue
		}
		list = append(list, next)
		next++
	}
	return list
}

func (w *work) wrong() []int {
	list := horses(len(w.Entries))
	slices.SortFunc(list, func(a, b horse) int {
		x, y := a.list(), b.list()
		return cmp.Or(cmp.Compare(len(x), len(y)), slices.Compare(x, y))
	})
	var out []int
search:
	for _, h := range list {
		others := which(len(w.Entries), func(n int) bool { return !h.has(n) })
		for range w.ways(nil, others) {
			out = h.list()
			break search
		}
	}
	return out
}

// least keeps the first of what costs least.
type least[T any] struct {
	value T
	cost  int
	found bool
}

func (l *least[T]) offer(value T, cost int) {
	if !l.found || cost < l.cost {
		*l = least[T]{value, cost, true}
	}
}

type pair struct{ x, y int }

func (w *work) next() least[pair] {
	var best least[pair]
	for x := range w.Entries {
		for y := x + 1; y < len(w.Entries); y++ {
			yes, no := w.tally(func(v parting) bool { return v.joins(x, y) })
			best.offer(pair{x, y}, max(yes, no))
		}
	}
	return best
}
