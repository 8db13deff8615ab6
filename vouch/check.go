package vouch

import "palfrey/api"

// wrong is what a call panics with if an argument is wrong, or if there is nothing to return.
type wrong struct{ api.Errno }

func need(holds bool, e api.Errno) {
	if !holds {
		panic(wrong{e})
	}
}

func within(n, from, to int) bool { return from <= n && n <= to }

// needOnes needs numbers of some of so many persons, or facts.
func needOnes(many int, numbers ...int) {
	for _, n := range numbers {
		need(within(n, 0, many-1), api.ErrNobody)
	}
}

// answer returns what find finds of the vouchers, or else the first error.
func answer[T any](v api.Vouch, find func(x *work) T) (found T, e api.Errno) {
	defer func() {
		switch r := recover().(type) {
		case nil:
		case wrong:
			e = r.Errno
		default:
			panic(r)
		}
	}()
	checkVouch(v)
	return find(newWork(v)), api.OK
}

func checkVouch(v api.Vouch) {
	need(within(v.Persons, 1, api.VouchPersons), api.ErrFigure)
	need(within(v.Facts, 0, api.VouchFacts), api.ErrFigure)
	need(len(v.Words) <= api.VouchWords, api.ErrOver)
	for _, w := range v.Words {
		checkWord(v, w)
	}
}

// checkWord needs vouchers of which the numbers of persons and of facts are right.
func checkWord(v api.Vouch, w api.Word) {
	needOnes(v.Persons, w.By)
	arguments := kind(w.Kind).arguments()
	need(arguments > 0, api.ErrClass)
	checkSaying(v, sayingOf(w))
	need(arguments > 1 || w.B == 0, api.ErrFigure)
}

func checkSaying(v api.Vouch, s saying) {
	switch s := s.(type) {
	case factSo:
		needOnes(v.Facts, s.fact)
	case factNot:
		needOnes(v.Facts, s.fact)
	case factIf:
		needOnes(v.Facts, s.fact, s.then)
	case honest:
		needOnes(v.Persons, s.person)
	case lying:
		needOnes(v.Persons, s.person)
	case alike:
		needOnes(v.Persons, s.person, s.other)
	case many:
		need(within(s.least, 0, v.Persons), api.ErrFigure)
	}
	if s, two := s.(alike); two {
		need(s.person < s.other, api.ErrTurn)
	}
}

func checkWorld(v api.Vouch, w api.World) {
	checkNumbers(w.True, v.Persons)
	checkNumbers(w.So, v.Facts)
}

func checkNumbers(list []int, many int) {
	for i, n := range list {
		needOnes(many, n)
		need(i == 0 || list[i-1] < n, api.ErrTurn)
	}
}
