package vouch_test

import (
	"slices"
	"testing"

	"palfrey/api"
	"palfrey/vouch"
)

type (
	ints = []int
	told = []api.Word
)

// say returns words: By, Kind, A and B of each.
func say(l ...int) told {
	var list told
	for i := 0; i < len(l); i += 4 {
		list = append(list, api.Word{By: l[i], Kind: l[i+1], A: l[i+2], B: l[i+3]})
	}
	return list
}

func vouchers(persons, facts int, l ...int) api.Vouch {
	return api.Vouch{Persons: persons, Facts: facts, Words: say(l...)}
}

// exampleV is the vouchers V of the chapter's examples.
func exampleV() api.Vouch {
	return vouchers(3, 1, 0, api.SaysFalse, 1, 0, 1, api.SaysSo, 0, 0, 2, api.SaysSame, 0, 1)
}

func exampleX() api.Vouch { return then(exampleV(), say(0, api.SaysSo, 0, 0)...) }

func exampleP() api.Vouch { return vouchers(1, 0, 0, api.SaysFalse, 0, 0) }

func exampleQ() api.Vouch { return vouchers(2, 0, 0, api.SaysTrue, 1, 0, 1, api.SaysTrue, 0, 0) }

// full is vouchers with as many persons, facts and words as there can be.
func full() api.Vouch {
	return vouchers(4, 3, 0, api.SaysSo, 2, 0, 1, api.SaysNot, 2, 0, 2, api.SaysFalse, 3, 0, 3, api.SaysTrue, 0, 0, 3, api.SaysIf, 2, 1, 2, api.SaysSame, 0, 3, 1, api.SaysMany, 4, 0, 0, api.SaysMany, 0, 0)
}

func world(persons, facts ints) api.World { return api.World{True: persons, So: facts} }

func sameWorld(a, b api.World) bool { return slices.Equal(a.True, b.True) && slices.Equal(a.So, b.So) }

func sameVouch(a, b api.Vouch) bool {
	return a.Persons == b.Persons && a.Facts == b.Facts && slices.Equal(a.Words, b.Words)
}

type checked struct {
	name string
	v    api.Vouch
	want api.Errno
}

// refused is words that are not valid with three persons and one fact.
func refused() []struct {
	w    api.Word
	want api.Errno
} {
	var list []struct {
		w    api.Word
		want api.Errno
	}
	add := func(want api.Errno, l ...int) {
		for _, w := range say(l...) {
			list = append(list, struct {
				w    api.Word
				want api.Errno
			}{w, want})
		}
	}
	add(api.ErrNobody, 3, 9, 9, 9, -1, -1, -1, -1, 3, api.SaysSo, 0, 0, -1, api.SaysMany, 0, 0)
	add(api.ErrClass, 0, 7, 0, 0, 2, 7, 9, 9, 0, -1, 0, 0, 1, -1, -1, -1, 0, 1<<32, 0, 0, 0, 1<<32+2, 0, 0)
	for n := range 2 {
		add(api.ErrNobody, n, api.SaysSo+n, 1, 0, n, api.SaysSo+n, -1, 0, n, api.SaysSo+n, 1, 1, n, api.SaysSo+n, -1, -1)
		add(api.ErrFigure, n, api.SaysSo+n, 0, 1, n, api.SaysSo+n, 0, -1)
		add(api.ErrNobody, n, api.SaysFalse+n, 3, 0, n, api.SaysFalse+n, -1, 0, n, api.SaysFalse+n, 3, 1, n, api.SaysFalse+n, -1, -1)
		add(api.ErrFigure, n, api.SaysFalse+n, 2, 1, n, api.SaysFalse+n, 0, -1)
	}
	add(api.ErrNobody, 0, api.SaysIf, 1, 0, 0, api.SaysIf, -1, 0, 0, api.SaysIf, 0, 1, 0, api.SaysIf, 0, -1)
	add(api.ErrNobody, 0, api.SaysSame, 0, 3, 0, api.SaysSame, -1, 0, 0, api.SaysSame, 3, 3, 0, api.SaysSame, 3, 0, 0, api.SaysSame, 2, -1)
	add(api.ErrTurn, 0, api.SaysSame, 0, 0, 0, api.SaysSame, 2, 2, 0, api.SaysSame, 1, 0, 0, api.SaysSame, 2, 1)
	add(api.ErrFigure, 0, api.SaysMany, 4, 0, 0, api.SaysMany, -1, 0, 0, api.SaysMany, 0, 1, 0, api.SaysMany, 3, -1, 0, api.SaysMany, 4, 1)
	return list
}

// allBad is all vouchers that are not valid. Most have something wrong, too, that is checked later.
func allBad() []checked {
	nine := slices.Repeat(say(9, 9, 9, 9), 9)
	list := []checked{
		{"no persons", vouchers(0, 4), api.ErrFigure}, {"no persons, and a word", vouchers(0, 0, 0, 0, 0, 0), api.ErrFigure}, {"-1 persons", vouchers(-1, 0), api.ErrFigure},
		{"five persons", vouchers(5, 1), api.ErrFigure}, {"five persons, nine words", api.Vouch{Persons: 5, Words: nine}, api.ErrFigure},
		{"four facts", vouchers(3, 4), api.ErrFigure}, {"-1 facts", vouchers(1, -1, 9, 9, 9, 9), api.ErrFigure}, {"four facts, nine words", api.Vouch{Persons: 1, Facts: 4, Words: nine}, api.ErrFigure},
		{"nine words, all wrong", api.Vouch{Persons: 1, Words: nine}, api.ErrOver}, {"nine words, all right", api.Vouch{Persons: 4, Facts: 3, Words: slices.Repeat(say(3, api.SaysSo, 2, 0), 9)}, api.ErrOver},
		{"nothing", api.Vouch{}, api.ErrFigure},
	}
	for _, x := range refused() {
		list = append(list, checked{"a word", then(exampleV(), append(say(0, api.SaysSo, 0, 0), x.w)...), x.want})
		list = append(list, checked{"an error of a later word", then(exampleV(), append(told{x.w}, say(3, 9, 9, 9, 0, 9, 9, 9, 0, 5, 1, 0)...)...), x.want})
		list = append(list, checked{"the first word", api.Vouch{Persons: 3, Facts: 1, Words: told{x.w}}, x.want})
	}
	return list
}

func TestCheckReturnsTheFirstError(t *testing.T) { // P6.1
	for i, good := range []api.Vouch{
		exampleV(), exampleX(), exampleP(), exampleQ(), full(), vouchers(1, 0), vouchers(4, 3), vouchers(1, 3, 0, api.SaysSo, 2, 0, 0, api.SaysNot, 1, 0, 0, api.SaysIf, 2, 2, 0, api.SaysIf, 2, 0),
		vouchers(1, 0, 0, api.SaysMany, 1, 0, 0, api.SaysTrue, 0, 0), vouchers(4, 0, 3, api.SaysSame, 2, 3, 2, api.SaysFalse, 3, 0, 3, api.SaysMany, 4, 0),
		{Persons: 2, Facts: 3, Words: slices.Repeat(say(1, api.SaysIf, 0, 2), 8)},
	} {
		if e := vouch.Check(good); e != api.OK {
			t.Errorf("good vouchers %d: %v", i, e)
		}
	}
	for _, x := range allBad() {
		if e := vouch.Check(x.v); e != x.want {
			t.Errorf("%s: %v: %v, not %v", x.name, x.v, e, x.want)
		}
		if e := modelError(x.v); e != x.want {
			t.Errorf("%s: the model says %v of %v, not %v", x.name, e, x.v, x.want)
		}
	}
	for i, s := range samples(400) {
		if e := vouch.Check(s.v); e != api.OK {
			t.Errorf("sample %d: %v: %v", i, s.v, e)
		}
	}
}

func TestCheckWord(t *testing.T) { // P6.1
	for _, x := range allBad() {
		if e := vouch.CheckWord(x.v, api.Word{By: 9}); e != x.want {
			t.Errorf("%s: CheckWord of %v: %v, not %v", x.name, x.v, e, x.want)
		}
	}
	for _, x := range refused() {
		if e := vouch.CheckWord(exampleV(), x.w); e != x.want {
			t.Errorf("CheckWord of %v: %v, not %v", x.w, e, x.want)
		}
	}
	// It is no matter that there is no room for the word.
	if e := vouch.CheckWord(full(), api.Word{By: 3, Kind: api.SaysIf, A: 2, B: 2}); e != api.OK {
		t.Errorf("CheckWord with eight words: %v", e)
	}
	for persons := range api.VouchPersons {
		for facts := range api.VouchFacts + 1 {
			v := api.Vouch{Persons: persons + 1, Facts: facts}
			everyWord(func(w api.Word) {
				if e, want := vouch.CheckWord(v, w), modelWordError(v, w); e != want {
					t.Errorf("CheckWord of %v, %v: %v, not %v", v, w, e, want)
				}
			})
		}
	}
}

// everyWord tells all words of numbers that are too small by one, right, or too great by one.
func everyWord(tell func(w api.Word)) {
	for by := -1; by <= api.VouchPersons; by++ {
		for kind := -1; kind <= api.SaysMany+1; kind++ {
			for a := -1; a <= api.VouchPersons+1; a++ {
				for b := -1; b <= api.VouchPersons; b++ {
					tell(api.Word{By: by, Kind: kind, A: a, B: b})
				}
			}
		}
	}
}

func TestWrong(t *testing.T) { // P6.1
	for _, x := range []struct {
		v    api.Vouch
		w    api.World
		want ints
		e    api.Errno
	}{
		{exampleV(), world(ints{1}, ints{0}), nil, api.OK}, {exampleV(), world(ints{0}, nil), nil, api.OK}, {exampleV(), world(ints{0, 1}, ints{0}), ints{0, 2}, api.OK},
		{exampleV(), world(nil, nil), ints{0, 2}, api.OK}, {exampleV(), world(ints{2}, ints{0}), ints{0, 1}, api.OK}, {exampleV(), world(ints{0, 1, 2}, nil), ints{0, 1}, api.OK},
		{exampleV(), world(ints{2, 1}, nil), nil, api.ErrTurn}, {exampleV(), world(ints{1, 1}, nil), nil, api.ErrTurn}, {exampleV(), world(ints{2, 1, 9}, ints{9}), nil, api.ErrTurn},
		{exampleV(), world(ints{3}, ints{0, 0}), nil, api.ErrNobody}, {exampleV(), world(ints{-1}, nil), nil, api.ErrNobody}, {exampleV(), world(ints{1, -1}, nil), nil, api.ErrNobody},
		{exampleV(), world(ints{3, 0, 0}, nil), nil, api.ErrNobody}, {exampleV(), world(nil, ints{1}), nil, api.ErrNobody}, {exampleV(), world(nil, ints{-1}), nil, api.ErrNobody},
		{exampleV(), world(ints{0, 1, 2}, ints{0, 0}), nil, api.ErrTurn}, {exampleV(), world(ints{0}, ints{0, 1}), nil, api.ErrNobody},
		{vouchers(1, 3), world(ints{0}, ints{0, 1, 2}), nil, api.OK}, {vouchers(1, 3), world(ints{0}, ints{2, 0}), nil, api.ErrTurn}, {vouchers(1, 3), world(ints{0}, ints{3, 2}), nil, api.ErrNobody},
		{vouchers(1, 3), world(ints{0, 0}, ints{3}), nil, api.ErrTurn}, {vouchers(1, 3), world(ints{1}, ints{0}), nil, api.ErrNobody},
		{exampleP(), world(ints{0}, nil), ints{0}, api.OK}, {exampleP(), world(nil, nil), ints{0}, api.OK}, {vouchers(4, 0), world(nil, nil), ints{0, 1, 2, 3}, api.OK},
	} {
		if l, e := vouch.Wrong(x.v, x.w); e != x.e || !slices.Equal(l, x.want) {
			t.Errorf("Wrong of %v, %v: %v %v, not %v %v", x.v, x.w, l, e, x.want, x.e)
		}
		if e := modelWorldError(x.v, x.w); e != x.e {
			t.Errorf("the model says %v of %v, %v, not %v", e, x.v, x.w, x.e)
		}
	}
	found := met{}
	for i, s := range append(samples(400), small()...) {
		can := 0
		for _, w := range modelWorlds(s.v) {
			l := must[[]int](t)(vouch.Wrong(s.v, w))
			if want := modelWrong(s.v, w); !slices.Equal(l, want) {
				t.Errorf("sample %d: Wrong of %v, %v: %v, not %v", i, s.v, w, l, want)
			}
			if len(l) == 0 {
				can++
			}
			for _, p := range l {
				found[[]string{"false, though all is so", "true, though something is not so"}[len(modelWhere([]api.World{w}, isTrue(p)))]]++
			}
		}
		if n := must[int](t)(vouch.Count(s.v)); n != can {
			t.Errorf("sample %d: Count of %v: %d, and Wrong hinders all but %d", i, s.v, n, can)
		}
	}
	found.need(t, "false, though all is so", "true, though something is not so")
}

// TestWhatWordsSay is about one word, of a person whom it does not name: the person hinders a world unless it is true just if the word is so.
func TestWhatWordsSay(t *testing.T) { // P6.1
	for _, x := range []struct {
		word api.Word
		so   func(a, b bool, liars int) bool
	}{
		{api.Word{Kind: api.SaysSo, A: 0}, func(a, b bool, liars int) bool { return a }},
		{api.Word{Kind: api.SaysNot, A: 0}, func(a, b bool, liars int) bool { return !a }},
		{api.Word{Kind: api.SaysIf, A: 0, B: 1}, func(a, b bool, liars int) bool { return !a || b }},
		{api.Word{Kind: api.SaysIf, A: 1, B: 0}, func(a, b bool, liars int) bool { return !b || a }},
		{api.Word{Kind: api.SaysIf, A: 1, B: 1}, func(a, b bool, liars int) bool { return true }},
		{api.Word{Kind: api.SaysFalse, A: 1}, func(a, b bool, liars int) bool { return !a }},
		{api.Word{Kind: api.SaysTrue, A: 1}, func(a, b bool, liars int) bool { return a }},
		{api.Word{Kind: api.SaysSame, A: 1, B: 2}, func(a, b bool, liars int) bool { return a == b }},
		{api.Word{Kind: api.SaysMany, A: 0}, func(a, b bool, liars int) bool { return true }},
		{api.Word{Kind: api.SaysMany, A: 1}, func(a, b bool, liars int) bool { return liars >= 1 }},
		{api.Word{Kind: api.SaysMany, A: 2}, func(a, b bool, liars int) bool { return liars >= 2 }},
		{api.Word{Kind: api.SaysMany, A: 3}, func(a, b bool, liars int) bool { return liars >= 3 }},
	} {
		for _, first := range []bool{false, true} {
			for _, a := range []bool{false, true} {
				for _, b := range []bool{false, true} {
					v, w := vouchers(3, 2), api.World{}
					v.Words = told{x.word}
					facts := x.word.Kind == api.SaysSo || x.word.Kind == api.SaysNot || x.word.Kind == api.SaysIf
					liars := 0
					add := func(list *[]int, n int, is bool) {
						if is {
							*list = append(*list, n)
						}
					}
					add(&w.True, 0, first)
					if facts {
						add(&w.So, 0, a)
						add(&w.So, 1, b)
					} else {
						add(&w.True, 1, a)
						add(&w.True, 2, b)
					}
					liars = 3 - len(w.True)
					l := must[[]int](t)(vouch.Wrong(v, w))
					if hinders := slices.Contains(l, 0); hinders != (first != x.so(a, b, liars)) {
						t.Errorf("Wrong of %v, %v: %v", v, w, l)
					}
				}
			}
		}
	}
}

func TestWorldsThatCanBe(t *testing.T) { // P6.2, P6.3
	yes, no, may := api.Surely, api.Never, api.MayBe
	for _, x := range []struct {
		v             api.Vouch
		count         int
		first         api.World
		from, to      int
		persons, best ints
		facts, so     ints
	}{
		{exampleV(), 2, world(ints{1}, ints{0}), 2, 2, ints{may, may, no}, ints{may, may, no}, ints{may}, ints{may}},
		{exampleX(), 2, world(ints{2}, nil), 2, 2, ints{no, may, may}, ints{no, may, may}, ints{may}, ints{may}},
		{exampleQ(), 2, world(ints{0, 1}, nil), 0, 2, ints{may, may}, ints{yes, yes}, nil, nil},
		{vouchers(1, 0), 1, world(ints{0}, nil), 0, 0, ints{yes}, ints{yes}, nil, nil},
		{vouchers(4, 3), 8, world(ints{0, 1, 2, 3}, nil), 0, 0, ints{yes, yes, yes, yes}, ints{yes, yes, yes, yes}, ints{may, may, may}, ints{may, may, may}},
		{vouchers(1, 1, 0, api.SaysSo, 0, 0), 2, world(ints{0}, ints{0}), 0, 1, ints{may}, ints{yes}, ints{may}, ints{yes}},
		{vouchers(1, 2, 0, api.SaysSo, 1, 0), 4, world(ints{0}, ints{0, 1}), 0, 1, ints{may}, ints{yes}, ints{may, may}, ints{may, yes}},
		{vouchers(1, 2, 0, api.SaysNot, 1, 0), 4, world(ints{0}, nil), 0, 1, ints{may}, ints{yes}, ints{may, may}, ints{may, no}},
		{vouchers(2, 1, 0, api.SaysSo, 0, 0, 1, api.SaysNot, 0, 0), 2, world(ints{1}, nil), 1, 1, ints{may, may}, ints{may, may}, ints{may}, ints{may}},
		// The list of the false persons is less if the first ones are false, and not the first ones true.
		{vouchers(3, 0, 0, api.SaysFalse, 1, 0, 1, api.SaysFalse, 0, 0), 2, world(ints{1, 2}, nil), 1, 1, ints{may, may, yes}, ints{may, may, yes}, nil, nil},
		{vouchers(1, 0, 0, api.SaysMany, 0, 0), 1, world(ints{0}, nil), 0, 0, ints{yes}, ints{yes}, nil, nil},
		{vouchers(3, 0, 0, api.SaysMany, 1, 0, 1, api.SaysMany, 2, 0), 1, world(ints{0, 2}, nil), 1, 1, ints{yes, no, yes}, ints{yes, no, yes}, nil, nil},
		{vouchers(2, 0, 0, api.SaysTrue, 0, 0), 2, world(ints{0, 1}, nil), 0, 1, ints{may, yes}, ints{yes, yes}, nil, nil},
	} {
		if n := must[int](t)(vouch.Count(x.v)); n != x.count {
			t.Errorf("Count of %v: %d, not %d", x.v, n, x.count)
		}
		if w := must[api.World](t)(vouch.Fewest(x.v)); !sameWorld(w, x.first) {
			t.Errorf("Fewest of %v: %v, not %v", x.v, w, x.first)
		}
		if r := must[api.Range](t)(vouch.Liars(x.v)); r != (api.Range{From: x.from, To: x.to}) {
			t.Errorf("Liars of %v: %v, not %d to %d", x.v, r, x.from, x.to)
		}
		for _, y := range []struct {
			best    bool
			persons ints
			facts   ints
		}{{false, x.persons, x.facts}, {true, x.best, x.so}} {
			for p, want := range y.persons {
				if n := must[int](t)(vouch.Person(x.v, p, y.best)); n != want {
					t.Errorf("Person of %v, %d, %v: %d, not %d", x.v, p, y.best, n, want)
				}
			}
			for f, want := range y.facts {
				if n := must[int](t)(vouch.Fact(x.v, f, y.best)); n != want {
					t.Errorf("Fact of %v, %d, %v: %d, not %d", x.v, f, y.best, n, want)
				}
			}
		}
	}
	if n := must[int](t)(vouch.Count(exampleP())); n != 0 {
		t.Errorf("Count of P: %d", n)
	}
}

func TestNoWorldCanBe(t *testing.T) { // P6.2 to P6.6
	v := vouchers(1, 1, 0, api.SaysFalse, 0, 0)
	for _, best := range []bool{false, true} {
		for _, x := range []struct {
			n    int
			want api.Errno
		}{{0, api.ErrVoid}, {1, api.ErrNobody}, {-1, api.ErrNobody}} {
			a, e := vouch.Person(v, x.n, best)
			b, f := vouch.Fact(v, x.n, best)
			if a != 0 || b != 0 || e != x.want || f != x.want {
				t.Errorf("Person and Fact of %v, %d: %d %v, %d %v, not %v", v, x.n, a, e, b, f, x.want)
			}
		}
	}
	if w, e := vouch.Fewest(v); e != api.ErrVoid || !sameWorld(w, api.World{}) {
		t.Errorf("Fewest of %v: %v %v", v, w, e)
	}
	if r, e := vouch.Liars(v); e != api.ErrVoid || r != (api.Range{}) {
		t.Errorf("Liars of %v: %v %v", v, r, e)
	}
	if n, e := vouch.Follows(v, api.Word{Kind: api.SaysMany}); e != api.ErrVoid || n != 0 {
		t.Errorf("Follows of %v: %d %v", v, n, e)
	}
	if n, e := vouch.Follows(v, api.Word{Kind: api.SaysMany, A: 2}); e != api.ErrFigure || n != 0 {
		t.Errorf("Follows of %v: %d %v", v, n, e)
	}
	if p, n, e := vouch.Ask(v); e != api.ErrVoid || p != 0 || n != 0 {
		t.Errorf("Ask of %v: %d %d %v", v, p, n, e)
	}
	if n := must[int](t)(vouch.Count(v)); n != 0 {
		t.Errorf("Count of %v: %d", v, n)
	}
}

func TestFollows(t *testing.T) { // P6.4
	for _, x := range []struct {
		v    api.Vouch
		w    told
		want int
		e    api.Errno
	}{
		{exampleV(), say(0, api.SaysMany, 2, 0), api.Surely, api.OK}, {exampleV(), say(1, api.SaysSame, 0, 1), api.Never, api.OK}, {exampleX(), say(2, api.SaysTrue, 1, 0), api.MayBe, api.OK},
		{exampleV(), say(0, api.SaysMany, 3, 0), api.Never, api.OK}, {exampleV(), say(2, api.SaysSame, 0, 1), api.Never, api.OK}, {exampleV(), say(2, api.SaysFalse, 2, 0), api.Surely, api.OK},
		{exampleV(), say(2, api.SaysTrue, 2, 0), api.Never, api.OK}, {exampleV(), say(0, api.SaysSo, 0, 0), api.MayBe, api.OK}, {exampleV(), say(0, api.SaysNot, 0, 0), api.MayBe, api.OK},
		{exampleV(), say(0, api.SaysIf, 0, 0), api.Surely, api.OK}, {exampleX(), say(0, api.SaysSame, 1, 2), api.Never, api.OK}, {exampleQ(), say(0, api.SaysSame, 0, 1), api.Surely, api.OK},
		{vouchers(1, 2, 0, api.SaysSo, 0, 0), say(0, api.SaysIf, 1, 0), api.MayBe, api.OK},
	} {
		for by := range x.v.Persons {
			w := x.w[0]
			w.By = by
			if n, e := vouch.Follows(x.v, w); n != x.want || e != x.e {
				t.Errorf("Follows of %v, %v: %d %v, not %d %v", x.v, w, n, e, x.want, x.e)
			}
		}
	}
	for _, x := range refused() {
		if n, e := vouch.Follows(exampleV(), x.w); n != 0 || e != x.want {
			t.Errorf("Follows of %v: %d %v, not %v", x.w, n, e, x.want)
		}
	}
	found := met{}
	for i, s := range samples(300) {
		if len(s.can) == 0 {
			continue
		}
		for _, w := range words(s.v.Persons, s.v.Facts) {
			n := must[int](t)(vouch.Follows(s.v, w))
			if want := modelVerdict(s.can, func(o api.World) bool { return modelIsSo(s.v, o, w) }); n != want {
				t.Errorf("sample %d: Follows of %v, %v: %d, not %d", i, s.v, w, n, want)
			}
			found[nameOf(n)]++
		}
	}
	found.need(t, "surely", "never", "maybe")
}

func TestIf(t *testing.T) { // P6.4
	for _, x := range []struct {
		v      api.Vouch
		person int
		want   api.World
		e      api.Errno
	}{
		{exampleX(), 2, world(ints{2}, nil), api.OK}, {exampleV(), 2, api.World{}, api.ErrVoid}, {exampleX(), 1, world(ints{1}, ints{0}), api.OK},
		{exampleV(), 0, world(ints{0}, nil), api.OK}, {exampleV(), 1, world(ints{1}, ints{0}), api.OK}, {exampleX(), 0, api.World{}, api.ErrVoid},
		{exampleV(), 3, api.World{}, api.ErrNobody}, {exampleV(), -1, api.World{}, api.ErrNobody}, {exampleP(), 0, api.World{}, api.ErrVoid}, {exampleP(), 1, api.World{}, api.ErrNobody},
		{exampleQ(), 1, world(ints{0, 1}, nil), api.OK}, {vouchers(2, 3), 1, world(ints{0, 1}, nil), api.OK}, {vouchers(1, 3, 0, api.SaysSo, 2, 0), 0, world(ints{0}, ints{0, 1, 2}), api.OK},
		{vouchers(3, 0, 0, api.SaysFalse, 1, 0, 1, api.SaysFalse, 0, 0), 2, world(ints{1, 2}, nil), api.OK},
		{vouchers(3, 0, 0, api.SaysFalse, 1, 0, 1, api.SaysFalse, 0, 0), 0, world(ints{0, 2}, nil), api.OK},
	} {
		if w, e := vouch.If(x.v, x.person); e != x.e || !sameWorld(w, x.want) {
			t.Errorf("If of %v, %d: %v %v, not %v %v", x.v, x.person, w, e, x.want, x.e)
		}
	}
}

func TestSilent(t *testing.T) { // P6.5
	for _, x := range []struct {
		v    api.Vouch
		want ints
	}{
		{exampleV(), nil}, {exampleX(), nil}, {exampleP(), ints{0}}, {exampleQ(), nil}, {vouchers(1, 0), nil},
		// Who says of itself to be false, and to be true, is false.
		{vouchers(1, 0, 0, api.SaysTrue, 0, 0, 0, api.SaysFalse, 0, 0), nil},
		{vouchers(1, 0, 0, api.SaysMany, 0, 0, 0, api.SaysFalse, 0, 0), ints{1}},
		{vouchers(1, 0, 0, api.SaysFalse, 0, 0, 0, api.SaysFalse, 0, 0), ints{0, 1}},
		{vouchers(2, 0, 0, api.SaysFalse, 1, 0, 1, api.SaysTrue, 0, 0), ints{0}},
		{vouchers(2, 0, 1, api.SaysMany, 2, 0, 0, api.SaysMany, 2, 0), ints{0}}, {vouchers(2, 0, 1, api.SaysMany, 1, 0, 0, api.SaysMany, 2, 0), nil},
		{vouchers(3, 0, 0, api.SaysMany, 3, 0, 1, api.SaysMany, 2, 0, 2, api.SaysTrue, 1, 0), ints{1}},
		{vouchers(2, 0, 0, api.SaysFalse, 0, 0, 1, api.SaysFalse, 1, 0, 1, api.SaysTrue, 1, 0), ints{0}},
		{vouchers(2, 0, 0, api.SaysFalse, 0, 0, 1, api.SaysMany, 0, 0, 1, api.SaysFalse, 1, 0), ints{0, 2}},
		{api.Vouch{Persons: 1, Words: slices.Repeat(say(0, api.SaysFalse, 0, 0), 8)}, ints{0, 1, 2, 3, 4, 5, 6, 7}},
	} {
		if l := must[[]int](t)(vouch.Silent(x.v)); !slices.Equal(l, x.want) {
			t.Errorf("Silent of %v: %v, not %v", x.v, l, x.want)
		}
	}
}

func TestAskAndProof(t *testing.T) { // P6.6
	for _, x := range []struct {
		v              api.Vouch
		person, worlds int
		e              api.Errno
		proof          ints
		f              api.Errno
	}{
		{exampleV(), 0, 1, api.OK, ints{0}, api.OK}, {exampleX(), 1, 1, api.OK, ints{1}, api.OK}, {exampleP(), 0, 0, api.ErrVoid, nil, api.ErrNobody}, {exampleQ(), 0, 1, api.OK, nil, api.ErrNobody},
		{vouchers(1, 0), 0, 0, api.ErrVoid, nil, api.ErrNobody}, {vouchers(4, 3), 0, 0, api.ErrVoid, nil, api.ErrVoid}, {vouchers(1, 1, 0, api.SaysFalse, 0, 0), 0, 0, api.ErrVoid, nil, api.ErrVoid},
		{vouchers(1, 1, 0, api.SaysSo, 0, 0), 0, 1, api.OK, ints{0}, api.OK}, {vouchers(2, 1, 1, api.SaysSo, 0, 0), 1, 1, api.OK, ints{1}, api.OK},
		// The words of 0 and 1 together tell of the fact 0, and 2 tells it alone.
		{vouchers(3, 2, 0, api.SaysSame, 1, 2, 1, api.SaysSo, 1, 0, 2, api.SaysSo, 0, 0), 0, 2, api.OK, ints{2}, api.OK},
		{vouchers(3, 2, 1, api.SaysIf, 0, 1, 1, api.SaysIf, 1, 0, 2, api.SaysSo, 1, 0), 1, 2, api.OK, ints{1, 2}, api.OK},
		// Of the fact 0 it is known that it is so: nobody has to prove it.
		{vouchers(2, 1, 0, api.SaysTrue, 0, 0, 0, api.SaysTrue, 1, 0, 1, api.SaysSo, 0, 0, 1, api.SaysTrue, 0, 0, 0, api.SaysNot, 0, 0), 0, 0, api.ErrVoid, nil, api.ErrVoid},
		{vouchers(2, 1, 0, api.SaysFalse, 1, 0, 1, api.SaysSo, 0, 0, 0, api.SaysMany, 2, 0), 0, 0, api.ErrVoid, nil, api.OK},
		// It is never found out whether 0 is true: the greater number is all worlds.
		{vouchers(1, 2, 0, api.SaysIf, 0, 1), 0, 3, api.OK, nil, api.ErrVoid},
	} {
		p, n, e := vouch.Ask(x.v)
		if p != x.person || n != x.worlds || e != x.e {
			t.Errorf("Ask of %v: %d %d %v, not %d %d %v", x.v, p, n, e, x.person, x.worlds, x.e)
		}
		if l, f := vouch.Proof(x.v, 0); f != x.f || !slices.Equal(l, x.proof) {
			t.Errorf("Proof of %v: %v %v, not %v %v", x.v, l, f, x.proof, x.f)
		}
		for _, fact := range []int{-1, x.v.Facts} {
			if l, f := vouch.Proof(x.v, fact); f != api.ErrNobody || len(l) != 0 {
				t.Errorf("Proof of %v, %d: %v %v", x.v, fact, l, f)
			}
		}
	}
}

func TestAdd(t *testing.T) { // P6.7
	for _, x := range []struct {
		v    api.Vouch
		w    told
		want api.Errno
	}{
		{exampleV(), say(0, api.SaysSo, 0, 0), api.OK}, {vouchers(1, 0), say(0, api.SaysFalse, 0, 0), api.ErrFalse}, {vouchers(1, 0), say(0, api.SaysTrue, 0, 0), api.OK},
		// Without the word no world can be, either.
		{exampleP(), say(0, api.SaysFalse, 0, 0), api.OK}, {exampleP(), say(0, api.SaysMany, 0, 0), api.OK},
		// The second word makes it possible that the person is false.
		{vouchers(1, 1, 0, api.SaysFalse, 0, 0), say(0, api.SaysSo, 0, 0), api.OK},
		{vouchers(2, 0, 0, api.SaysFalse, 1, 0), say(1, api.SaysTrue, 0, 0), api.ErrFalse}, {vouchers(2, 0, 0, api.SaysFalse, 1, 0), say(1, api.SaysFalse, 0, 0), api.OK},
		{full(), say(0, api.SaysSo, 0, 0), api.ErrOver}, {full(), say(9, 9, 9, 9), api.ErrOver}, {change(full(), func(v *api.Vouch) { v.Words = v.Words[:7] }), say(3, api.SaysTrue, 3, 0), api.OK},
	} {
		v, e := vouch.Add(x.v, x.w[0])
		want := api.Vouch{}
		if x.want == api.OK {
			want = then(x.v, x.w...)
		}
		if e != x.want || !sameVouch(v, want) {
			t.Errorf("Add to %v, %v: %v %v, not %v", x.v, x.w, v, e, x.want)
		}
	}
	for _, x := range refused() {
		if v, e := vouch.Add(exampleV(), x.w); e != x.want || !sameVouch(v, api.Vouch{}) {
			t.Errorf("Add of %v: %v %v, not %v", x.w, v, e, x.want)
		}
	}
	d := dice(67)
	found := met{}
	for i, s := range append(samples(1200), small()...) {
		w := d.word(s.v.Persons, s.v.Facts)
		before, after := len(s.can), len(modelCan(then(s.v, w)))
		due, want := api.OK, then(s.v, w)
		switch {
		case len(s.v.Words) == api.VouchWords:
			due, want = api.ErrOver, api.Vouch{}
		case before > 0 && after == 0:
			due, want = api.ErrFalse, api.Vouch{}
		case before == 0 && after == 0:
			found["none before, and none with it"]++
		case before == 0:
			found["none before, some with it"]++
		}
		v, e := vouch.Add(s.v, w)
		if e != due || !sameVouch(v, want) {
			t.Errorf("sample %d: Add to %v, %v: %v %v, not %v %v", i, s.v, w, v, e, want, due)
		}
		found[e.Error()]++
	}
	found.need(t, api.OK.Error(), api.ErrOver.Error(), api.ErrFalse.Error(), "none before, and none with it", "none before, some with it")
}

func change(v api.Vouch, how func(v *api.Vouch)) api.Vouch {
	how(&v)
	return v
}
