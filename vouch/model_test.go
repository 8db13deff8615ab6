package vouch_test

import (
	"cmp"
	"slices"

	"palfrey/api"
)

// The model says in the plainest way what the chapter says, so that the package can be held against it.

func modelWordError(v api.Vouch, w api.Word) api.Errno {
	nobody := func(n int) bool { return n < 0 || n >= v.Persons }
	nothing := func(n int) bool { return n < 0 || n >= v.Facts }
	if nobody(w.By) {
		return api.ErrNobody
	}
	switch w.Kind {
	case api.SaysSo, api.SaysNot:
		if nothing(w.A) {
			return api.ErrNobody
		}
	case api.SaysFalse, api.SaysTrue:
		if nobody(w.A) {
			return api.ErrNobody
		}
	case api.SaysIf:
		if nothing(w.A) || nothing(w.B) {
			return api.ErrNobody
		}
		return api.OK
	case api.SaysSame:
		if nobody(w.A) || nobody(w.B) {
			return api.ErrNobody
		}
		if w.A >= w.B {
			return api.ErrTurn
		}
		return api.OK
	case api.SaysMany:
		if w.A < 0 || w.A > v.Persons {
			return api.ErrFigure
		}
	default:
		return api.ErrClass
	}
	if w.B != 0 {
		return api.ErrFigure
	}
	return api.OK
}

func modelError(v api.Vouch) api.Errno {
	if v.Persons < 1 || v.Persons > 4 || v.Facts < 0 || v.Facts > 3 {
		return api.ErrFigure
	}
	if len(v.Words) > 8 {
		return api.ErrOver
	}
	for _, w := range v.Words {
		if e := modelWordError(v, w); e != api.OK {
			return e
		}
	}
	return api.OK
}

func modelListError(list []int, many int) api.Errno {
	for i, n := range list {
		if n < 0 || n >= many {
			return api.ErrNobody
		}
		if i > 0 && n <= list[i-1] {
			return api.ErrTurn
		}
	}
	return api.OK
}

func modelWorldError(v api.Vouch, w api.World) api.Errno {
	if e := modelListError(w.True, v.Persons); e != api.OK {
		return e
	}
	return modelListError(w.So, v.Facts)
}

// others returns the numbers less than n that are not in the list.
func others(n int, list []int) []int {
	var rest []int
	for i := range n {
		if !slices.Contains(list, i) {
			rest = append(rest, i)
		}
	}
	return rest
}

func modelIsSo(v api.Vouch, w api.World, word api.Word) bool {
	trusted := func(p int) bool { return slices.Contains(w.True, p) }
	so := func(f int) bool { return slices.Contains(w.So, f) }
	switch word.Kind {
	case api.SaysSo:
		return so(word.A)
	case api.SaysNot:
		return !so(word.A)
	case api.SaysFalse:
		return !trusted(word.A)
	case api.SaysTrue:
		return trusted(word.A)
	case api.SaysIf:
		return !so(word.A) || so(word.B)
	case api.SaysSame:
		return trusted(word.A) && trusted(word.B) || !trusted(word.A) && !trusted(word.B)
	case api.SaysMany:
		return len(others(v.Persons, w.True)) >= word.A
	}
	return false
}

// modelAllSo tells whether all that the person has said is so in the world.
func modelAllSo(v api.Vouch, w api.World, person int) bool {
	for _, word := range v.Words {
		if word.By == person && !modelIsSo(v, w, word) {
			return false
		}
	}
	return true
}

func modelWrong(v api.Vouch, w api.World) []int {
	var list []int
	for p := range v.Persons {
		if slices.Contains(w.True, p) != modelAllSo(v, w, p) {
			list = append(list, p)
		}
	}
	return list
}

// lists returns all ascending lists of numbers less than n, the shortest first, then in lexicographic order.
func lists(n int) [][]int {
	var all [][]int
	for bits := range 1 << n {
		var list []int
		for i := range n {
			if bits>>i&1 == 1 {
				list = append(list, i)
			}
		}
		all = append(all, list)
	}
	slices.SortFunc(all, func(a, b []int) int { return cmp.Or(cmp.Compare(len(a), len(b)), slices.Compare(a, b)) })
	return all
}

func modelCompare(v api.Vouch, a, b api.World) int {
	x, y := others(v.Persons, a.True), others(v.Persons, b.True)
	return cmp.Or(cmp.Compare(len(x), len(y)), slices.Compare(x, y), slices.Compare(a.So, b.So))
}

// modelWorlds returns all worlds, in their order, whether they can be or not.
func modelWorlds(v api.Vouch) []api.World {
	var all []api.World
	for _, persons := range lists(v.Persons) {
		for _, facts := range lists(v.Facts) {
			all = append(all, api.World{True: persons, So: facts})
		}
	}
	slices.SortFunc(all, func(a, b api.World) int { return modelCompare(v, a, b) })
	return all
}

// modelCan returns all worlds that can be, in their order.
func modelCan(v api.Vouch) []api.World {
	return slices.DeleteFunc(modelWorlds(v), func(w api.World) bool { return len(modelWrong(v, w)) > 0 })
}

func modelFalse(v api.Vouch, w api.World) int { return v.Persons - len(w.True) }

// modelBest returns the best ones of the worlds, which are in their order.
func modelBest(v api.Vouch, can []api.World) []api.World {
	var best []api.World
	for _, w := range can {
		if modelFalse(v, w) == modelFalse(v, can[0]) {
			best = append(best, w)
		}
	}
	return best
}

func modelLiars(v api.Vouch, can []api.World) api.Range {
	r := api.Range{From: 99, To: -99}
	for _, w := range can {
		r.From, r.To = min(r.From, modelFalse(v, w)), max(r.To, modelFalse(v, w))
	}
	return r
}

// modelWhere returns the worlds in which something holds.
func modelWhere(list []api.World, holds func(w api.World) bool) []api.World {
	var part []api.World
	for _, w := range list {
		if holds(w) {
			part = append(part, w)
		}
	}
	return part
}

func isTrue(person int) func(w api.World) bool {
	return func(w api.World) bool { return slices.Contains(w.True, person) }
}

func isSo(fact int) func(w api.World) bool {
	return func(w api.World) bool { return slices.Contains(w.So, fact) }
}

func modelVerdict(list []api.World, holds func(w api.World) bool) int {
	switch len(modelWhere(list, holds)) {
	case len(list):
		return api.Surely
	case 0:
		return api.Never
	}
	return api.MayBe
}

// without returns the vouchers without the words of the list.
func without(v api.Vouch, list []int) api.Vouch {
	var rest []api.Word
	for i, w := range v.Words {
		if !slices.Contains(list, i) {
			rest = append(rest, w)
		}
	}
	v.Words = rest
	return v
}

func modelSilent(v api.Vouch) []int {
	for _, list := range lists(len(v.Words)) {
		if len(modelCan(without(v, list))) > 0 {
			return list
		}
	}
	return nil
}

// modelLeft returns how many worlds remain at most if it is found out whether the person is true.
func modelLeft(can []api.World, person int) int {
	yes := len(modelWhere(can, isTrue(person)))
	return max(yes, len(can)-yes)
}

func modelAsk(v api.Vouch, can []api.World) (person, worlds int, e api.Errno) {
	worlds = len(can)
	for p := range v.Persons {
		if n := modelLeft(can, p); n < worlds {
			person, worlds = p, n
		}
	}
	if worlds == len(can) {
		return 0, 0, api.ErrVoid
	}
	return person, worlds, api.OK
}

// modelProves tells whether any two worlds in which the same ones of the persons are true agree on the fact.
func modelProves(can []api.World, persons []int, fact int) bool {
	for i, a := range can {
		for _, b := range can[:i] {
			differ := slices.ContainsFunc(persons, func(p int) bool { return isTrue(p)(a) != isTrue(p)(b) })
			if !differ && isSo(fact)(a) != isSo(fact)(b) {
				return false
			}
		}
	}
	return true
}

func modelProof(v api.Vouch, can []api.World, fact int) ([]int, api.Errno) {
	for _, list := range lists(v.Persons) {
		if modelProves(can, list, fact) {
			return list, api.OK
		}
	}
	return nil, api.ErrVoid
}

// then returns the vouchers with the words behind their own ones.
func then(v api.Vouch, words ...api.Word) api.Vouch {
	v.Words = slices.Concat(v.Words, words)
	return v
}

// sample is vouchers, and the worlds that can be, as the model tells them.
type sample struct {
	v   api.Vouch
	can []api.World
}

func sampleOf(v api.Vouch) sample { return sample{v, modelCan(v)} }

// dice are thrown the same way in each run.
type dice uint64

func (d *dice) roll(n int) int {
	*d ^= *d << 13
	*d ^= *d >> 7
	*d ^= *d << 17
	return int(uint64(*d) >> 11 % uint64(n))
}

func (d *dice) one(list []int) int { return list[d.roll(len(list))] }

// shuffled returns the numbers less than n in some order.
func (d *dice) shuffled(n int) []int {
	var list []int
	for i := range n {
		list = slices.Insert(list, d.roll(i+1), i)
	}
	return list
}

// words returns all words that are valid for so many persons and facts.
func words(persons, facts int) []api.Word {
	v := api.Vouch{Persons: persons, Facts: facts}
	var list []api.Word
	for by := range persons {
		for kind := range 7 {
			for a := range 5 {
				for b := range 5 {
					w := api.Word{By: by, Kind: kind, A: a, B: b}
					if modelWordError(v, w) == api.OK {
						list = append(list, w)
					}
				}
			}
		}
	}
	return list
}

// word returns any word that is valid, of each kind as often as of the others.
func (d *dice) word(persons, facts int) api.Word {
	all := words(persons, facts)
	for {
		kind := d.roll(7)
		of := slices.DeleteFunc(slices.Clone(all), func(w api.Word) bool { return w.Kind != kind })
		if len(of) > 0 {
			return of[d.roll(len(of))]
		}
	}
}

func (d *dice) vouch(persons, facts, many int) api.Vouch {
	v := api.Vouch{Persons: persons, Facts: facts}
	for range many {
		v.Words = append(v.Words, d.word(persons, facts))
	}
	return v
}

func samples(many int) []sample {
	d := dice(20261120)
	var list []sample
	for i := range many {
		v := d.vouch(1+i%api.VouchPersons, d.roll(api.VouchFacts+1), d.roll(api.VouchWords+1))
		list = append(list, sampleOf(v))
	}
	return list
}

// small returns all vouchers of at most two persons, one fact and two words.
func small() []sample {
	var list []sample
	for persons := 1; persons <= 2; persons++ {
		for facts := range 2 {
			v := api.Vouch{Persons: persons, Facts: facts}
			list = append(list, sampleOf(v))
			for _, w := range words(persons, facts) {
				list = append(list, sampleOf(then(v, w)))
				for _, u := range words(persons, facts) {
					list = append(list, sampleOf(then(v, w, u)))
				}
			}
		}
	}
	return list
}
