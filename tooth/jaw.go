package tooth

import "palfrey/api"

// mouths is a set of mouths, as bits.
type mouths uint8

func (s mouths) with(m int) mouths { return s | 1<<m }

func (s mouths) join(t mouths) mouths { return s | t }

func (s mouths) meets(t mouths) bool { return s&t != 0 }

func (s mouths) has(m int) bool { return s>>m&1 == 1 }

func (s mouths) list() []int { return which(api.ToothMouths, s.has) }

// through returns all mouths to which the lists lead from those of the set.
func (s mouths) through(lists [][]int) mouths {
	var all []mouths
	for _, m := range s.list() {
		all = append(all, fold(mouths.with, lists[m]...))
	}
	return fold(mouths.join, all...)
}

func fold[T any](add func(mouths, T) mouths, all ...T) mouths {
	var s mouths
	for _, v := range all {
		s = add(s, v)
	}
	return s
}

func which(limit int, holds func(int) bool) []int {
	var list []int
	for n := range limit {
		if holds(n) {
			list = append(list, n)
		}
	}
	return list
}

func agesThat(holds func(age int) bool) []int { return which(api.ToothAge+1, holds) }

// jaw is a jaw at work.
type jaw struct{ api.Jaw }

// at returns the mouths that a horse of the age can have.
func (j jaw) at(age int) mouths {
	s := mouths(0).with(0)
	for range age {
		s = s.through(j.Next)
	}
	return s
}

func (j jaw) passes(age, as int) bool {
	had := j.at(age)
	return had.join(had.through(j.Filed)).meets(j.at(as))
}
