package cry

import (
	"iter"
	"slices"
	"sync"

	"palfrey/api"
)

const (
	fairTown = 0
	// late is the hour of whoever is nowhere in time: no way is open then.
	late = api.MaxHour + 1
)

// clock is the hours at which a bellman is in the towns, as soon as possible.
type clock [api.MaxTowns]int

// across returns when who is at one end of the way at the hour is at its other end.
func across(way api.Way, hour int) int {
	out := max(hour, way.Open.From)
	if out > way.Open.To {
		return late
	}
	return min(out+way.Hours, late)
}

func (x *work) ridden(c clock) clock {
	for _, way := range x.Ways {
		c[way.B] = min(c[way.B], across(way, c[way.A]))
		c[way.A] = min(c[way.A], across(way, c[way.B]))
	}
	return c
}

func (x *work) clock(c api.Cry) clock {
	var now clock
	for town := range now {
		now[town] = late
	}
	now[c.Town] = c.Hour
again:
	next := x.ridden(now)
	if next == now {
		return now
	}
	now = next
	goto again
}

// arrivals returns for each cry when it comes, or late if it never does.
func (x *work) arrivals() []int {
	hours := make([]int, len(x.Cries))
	var lock sync.Mutex
	var wait sync.WaitGroup
	for i, c := range x.Cries {
		wait.Add(1)
		go func() {
			defer wait.Done()
			hour := x.clock(c)[fairTown]
			lock.Lock()
			defer lock.Unlock()
			hours[i] = hour
		}()
	}
	wait.Wait()
	return hours
}

func (x *work) arrival(cry int) (int, error) {
	if x.comes[cry] == late {
		return 0, errNever
	}
	return x.comes[cry], nil
}

// between returns when who is in one town at the hour is in the other one, if they ride there at once.
func (x *work) between(from, to, hour int) int {
	soonest := late
	for _, way := range x.Ways {
		if way.A == from && way.B == to || way.A == to && way.B == from {
			soonest = min(soonest, across(way, hour))
		}
	}
	return soonest
}

// routes yields, in lexicographic order, the lists of towns from that of the cry to the fair, none twice, and when one is there; of those who are late not all.
func (x *work) routes(c api.Cry) iter.Seq2[[]int, int] {
	return func(yield func(towns []int, hour int) bool) {
		var towns []int
		var ride func(town, hour int) bool
		ride = func(town, hour int) bool {
			towns = append(towns, town)
			defer func() { towns = towns[:len(towns)-1] }()
			if town == fairTown {
				return yield(slices.Clone(towns), hour)
			}
			for next := range x.Towns {
				if slices.Contains(towns, next) {
					continue
				}
				if at := x.between(town, next, hour); at < late && !ride(next, at) {
					return false
				}
			}
			return true
		}
		ride(c.Town, c.Hour)
	}
}

func (x *work) route(cry int) ([]int, error) {
	hour, err := x.arrival(cry)
	if err != nil {
		return nil, err
	}
	var best []int
	for towns, at := range x.routes(x.Cries[cry]) {
		if at == hour && (best == nil || len(towns) < len(best)) {
			best = towns
		}
	}
	return best, nil
}
