package tooth_test

import (
	"slices"
	"testing"

	"palfrey/api"
	"palfrey/tooth"
)

type (
	ints  = []int
	rows  = [][]int
	looks = []api.Look
)

// exampleJ is the jaw J of the chapter's examples.
func exampleJ() api.Jaw {
	return api.Jaw{
		Next:  rows{{1}, {2}, {3, 4}, {4}, {5}, {5}},
		Filed: rows{nil, nil, nil, {2}, {2, 3}, {3, 4}},
	}
}

// seen returns looks, of which a year and a mouth are given in turn.
func seen(l ...int) looks {
	var list looks
	for i := 0; i < len(l); i += 2 {
		list = append(list, api.Look{Year: l[i], Seen: l[i+1]})
	}
	return list
}

// The looks of the chapter's examples.
func exampleA() looks { return seen(0, 2, 1, 4) }
func exampleB() looks { return seen(0, 3, 1, 3) }
func exampleC() looks { return seen(0, 4) }
func exampleE() looks { return seen(0, 1, 1, 5) }

// swinging has two mouths that change each year; each can be filed to look like the other one.
func swinging() api.Jaw { return api.Jaw{Next: rows{{1}, {0}}, Filed: rows{{1}, {0}}} }

// branching has a foal that becomes 1 or 2, and stays so; 2 can be filed to look like 1.
func branching() api.Jaw {
	return api.Jaw{Next: rows{{1, 2}, {1}, {2}}, Filed: rows{nil, nil, {1}}}
}

func withNext(mouth int, list ...int) api.Jaw {
	j := exampleJ()
	j.Next[mouth] = list
	return j
}

func withFiled(mouth int, list ...int) api.Jaw {
	j := exampleJ()
	j.Filed[mouth] = list
	return j
}

func change(j api.Jaw, how func(j *api.Jaw)) api.Jaw {
	how(&j)
	return j
}

type checkedJaw struct {
	name string
	j    api.Jaw
	want api.Errno
}

func badJaws() []checkedJaw {
	return []checkedJaw{
		{"no mouths", api.Jaw{}, api.ErrUnder},
		{"no mouths, but filed ones", change(exampleJ(), func(j *api.Jaw) { j.Next = nil }), api.ErrUnder},
		{"nine mouths, and all else wrong", api.Jaw{Next: make(rows, api.ToothMouths+1)}, api.ErrOver},
		{"Filed of five mouths, and Next wrong", change(withNext(0), func(j *api.Jaw) { j.Filed = j.Filed[:5] }), api.ErrFalse},
		{"Filed of seven mouths", change(exampleJ(), func(j *api.Jaw) { j.Filed = append(j.Filed, nil) }), api.ErrFalse},
		{"no Filed", change(exampleJ(), func(j *api.Jaw) { j.Filed = nil }), api.ErrFalse},
		{"no next mouth, and Filed wrong", change(withNext(5), func(j *api.Jaw) { j.Filed[5] = ints{9} }), api.ErrUnder},
		{"four next mouths, one wrong", withNext(1, 9, 2, 3, 4), api.ErrOver},
		{"the next mouth 6", withNext(1, 2, 6), api.ErrNobody},
		{"the next mouth -1", withNext(1, -1, 0), api.ErrNobody},
		{"the next mouths 6 and 1", withNext(1, 6, 1, 0), api.ErrNobody},
		{"the next mouths 4 and 3", withNext(2, 4, 3), api.ErrTurn},
		{"the next mouths 3 and 3, then 9", withNext(2, 3, 3, 9), api.ErrTurn},
		{"four filed mouths, one wrong", withFiled(5, 9, 0, 1, 2), api.ErrOver},
		{"the filed mouth 6", withFiled(3, 2, 6), api.ErrNobody},
		{"the filed mouth -1", withFiled(3, -1), api.ErrNobody},
		{"filed to look like itself", withFiled(3, 3), api.ErrClass},
		{"filed to look like itself, not ascending", withFiled(3, 4, 3), api.ErrClass},
		{"filed mouths 2 and 1, then itself", withFiled(3, 2, 1, 3), api.ErrTurn},
		{"filed mouths 2 and 2, then 6", withFiled(3, 2, 2, 6), api.ErrTurn},
		{"Filed of the mouth 1, then Next of the mouth 2", change(withFiled(1, 1), func(j *api.Jaw) { j.Next[2] = nil }), api.ErrClass},
		{"Next of the mouth 1, then Filed of the mouth 0", change(withFiled(0, 0), func(j *api.Jaw) { j.Next[1] = nil }), api.ErrClass},
		{"Next of the last mouth", withNext(5, 5, 4), api.ErrTurn},
		{"Filed of the last mouth", withFiled(5, 5), api.ErrClass},
	}
}

func goodJaws() []api.Jaw {
	return []api.Jaw{
		exampleJ(), swinging(), branching(),
		{Next: rows{{0}}, Filed: rows{nil}},
		{Next: slices.Repeat(rows{{0, 6, 7}}, 8), Filed: append(slices.Repeat(rows{{5, 6, 7}}, 5), nil, nil, ints{0, 1, 2})},
	}
}

func TestCheckReturnsTheFirstError(t *testing.T) { // P2.1
	for i, j := range goodJaws() {
		if e := tooth.Check(j); e != api.OK {
			t.Errorf("good jaw %d: %v", i, e)
		}
	}
	for _, x := range badJaws() {
		if e := tooth.Check(x.j); e != x.want {
			t.Errorf("%s: %v, not %v", x.name, e, x.want)
		}
		if e := tooth.CheckLooks(x.j, seen(9, 9)); e != x.want {
			t.Errorf("%s, and looks: %v, not %v", x.name, e, x.want)
		}
	}
}

type checkedLooks struct {
	name string
	l    looks
	want api.Errno
}

// badLooks are wrong for J; what is wrong after the first error does not matter.
func badLooks() []checkedLooks {
	return []checkedLooks{
		{"five looks", make(looks, api.ToothLooks+1), api.ErrOver},
		{"five looks, all wrong", seen(9, 9, 8, 9, 7, 9, 6, 9, 5, 9), api.ErrOver},
		{"year 7, mouth 6", seen(7, 6), api.ErrFigure},
		{"year -1", seen(-1, 0), api.ErrFigure},
		{"year -1 behind year 0", seen(0, 0, -1, 9), api.ErrFigure},
		{"year 0 behind year 1, mouth 6", seen(1, 4, 0, 6), api.ErrTurn},
		{"mouth 6, then years turned", seen(3, 6, 2, 0), api.ErrNobody},
		{"mouth -1, then year 9", seen(0, -1, 9, 0), api.ErrNobody},
		{"mouth 6 in the last look", seen(0, 0, 1, 1, 2, 2, 3, 6), api.ErrNobody},
		{"years turned in the last look", seen(0, 0, 1, 1, 2, 2, 1, 3), api.ErrTurn},
	}
}

func TestCheckLooksReturnsTheFirstError(t *testing.T) { // P2.1
	for i, l := range []looks{nil, exampleA(), exampleB(), exampleC(), exampleE(), seen(6, 5, 6, 0, 6, 1, 6, 1), seen(0, 0)} {
		if e := tooth.CheckLooks(exampleJ(), l); e != api.OK {
			t.Errorf("good looks %d: %v", i, e)
		}
	}
	for _, x := range badLooks() {
		if e := tooth.CheckLooks(exampleJ(), x.l); e != x.want {
			t.Errorf("%s: %v, not %v", x.name, e, x.want)
		}
	}
}

func TestMouths(t *testing.T) { // P2.1
	for _, x := range []struct {
		j    api.Jaw
		age  int
		want ints
	}{
		{exampleJ(), 0, ints{0}}, {exampleJ(), 3, ints{3, 4}}, {exampleJ(), 4, ints{4, 5}}, {exampleJ(), 12, ints{5}},
		{swinging(), 11, ints{1}}, {swinging(), 12, ints{0}}, {branching(), 12, ints{1, 2}},
		{api.Jaw{Next: rows{{7}, {0}, {0}, {0}, {0}, {0}, {0}, {0, 1, 7}}, Filed: make(rows, 8)}, 2, ints{0, 1, 7}},
	} {
		if l, e := tooth.Mouths(x.j, x.age); e != api.OK || !slices.Equal(l, x.want) {
			t.Errorf("Mouths of %d: %v %v, not %v", x.age, l, e, x.want)
		}
	}
	for _, age := range []int{-1, 13} {
		if l, e := tooth.Mouths(exampleJ(), age); e != api.ErrFigure || len(l) > 0 {
			t.Errorf("Mouths of %d: %v %v", age, l, e)
		}
	}
}

func TestShows(t *testing.T) { // P2.1
	for _, x := range []struct {
		j     api.Jaw
		mouth int
		want  ints
	}{
		{exampleJ(), 3, ints{3}}, {exampleJ(), 4, ints{3, 4}}, {exampleJ(), 5, ints{4, 5, 6, 7, 8, 9, 10, 11, 12}}, {exampleJ(), 0, ints{0}},
		{swinging(), 0, ints{0, 2, 4, 6, 8, 10, 12}}, {withNext(1, 3), 2, nil},
	} {
		if l, e := tooth.Shows(x.j, x.mouth); e != api.OK || !slices.Equal(l, x.want) {
			t.Errorf("Shows of %d: %v %v, not %v", x.mouth, l, e, x.want)
		}
	}
	for _, mouth := range []int{-1, 6} {
		if l, e := tooth.Shows(exampleJ(), mouth); e != api.ErrNobody || len(l) > 0 {
			t.Errorf("Shows of %d: %v %v", mouth, l, e)
		}
	}
}

func TestPasses(t *testing.T) { // P2.2
	for _, x := range []struct {
		j       api.Jaw
		age, as int
		want    bool
	}{
		{exampleJ(), 5, 3, true}, {exampleJ(), 5, 2, false}, {exampleJ(), 3, 2, true}, {exampleJ(), 2, 3, false},
		{exampleJ(), 0, 0, true}, {exampleJ(), 12, 12, true}, {exampleJ(), 3, 5, false}, {exampleJ(), 4, 5, true}, {exampleJ(), 12, 5, true},
		{swinging(), 0, 11, true}, {branching(), 0, 1, false}, {branching(), 1, 0, false},
		{withFiled(0, 5), 0, 12, true}, // filed to look older
	} {
		if is, e := tooth.Passes(x.j, x.age, x.as); e != api.OK || is != x.want {
			t.Errorf("Passes of %d as %d: %v %v", x.age, x.as, is, e)
		}
	}
	for _, x := range []ints{{-1, 0}, {13, 0}, {0, -1}, {0, 13}} {
		if is, e := tooth.Passes(exampleJ(), x[0], x[1]); e != api.ErrFigure || is {
			t.Errorf("Passes of %v: %v %v", x, is, e)
		}
	}
}

func TestCheat(t *testing.T) { // P2.2
	for _, x := range []struct {
		j         api.Jaw
		age, want int
	}{
		{exampleJ(), 5, 3}, {exampleJ(), 4, 2}, {exampleJ(), 1, 1}, {exampleJ(), 0, 0}, {exampleJ(), 12, 3},
		{swinging(), 7, 0}, {branching(), 12, 1}, {withFiled(0, 5), 0, 0}, {withFiled(5), 12, 4},
	} {
		if n, e := tooth.Cheat(x.j, x.age); e != api.OK || n != x.want {
			t.Errorf("Cheat of %d: %d %v, not %d", x.age, n, e, x.want)
		}
	}
	for _, age := range []int{-1, 13} {
		if n, e := tooth.Cheat(exampleJ(), age); e != api.ErrFigure || n != 0 {
			t.Errorf("Cheat of %d: %d %v", age, n, e)
		}
	}
}

func TestFilings(t *testing.T) { // P2.3
	for _, x := range []struct {
		j    api.Jaw
		l    looks
		want int
		e    api.Errno
	}{
		{exampleJ(), exampleA(), 0, api.OK}, {exampleJ(), exampleB(), 1, api.OK}, {exampleJ(), exampleC(), 0, api.OK}, {exampleJ(), nil, 0, api.OK},
		{exampleJ(), exampleE(), 0, api.ErrVoid},
		{exampleJ(), seen(0, 3, 0, 4), 1, api.OK}, // of one year, each by itself
		{exampleJ(), seen(2, 3, 3, 3, 4, 4), 2, api.OK},
		{swinging(), seen(0, 0, 0, 0, 0, 1, 0, 1), 2, api.OK},
		{swinging(), seen(0, 0, 1, 0, 1, 0, 1, 0), 1, api.OK},
		{branching(), seen(0, 2, 6, 1), 1, api.OK}, {branching(), seen(0, 1, 6, 2), 1, api.OK},
		{branching(), seen(0, 0, 0, 2), 0, api.ErrVoid},
	} {
		if n, e := tooth.Filings(x.j, x.l); e != x.e || n != x.want {
			t.Errorf("Filings of %v: %d %v, not %d %v", x.l, n, e, x.want, x.e)
		}
	}
}

func TestAges(t *testing.T) { // P2.4
	for _, x := range []struct {
		l       looks
		filings int
		want    ints
		e       api.Errno
	}{
		{exampleA(), 0, ints{2}, api.OK}, {exampleA(), 1, ints{2, 3}, api.OK}, {exampleA(), 2, ints{2, 3, 4}, api.OK}, {exampleA(), 4, ints{2, 3, 4}, api.OK},
		{exampleB(), 0, nil, api.ErrVoid}, {exampleB(), 1, ints{3}, api.OK}, {exampleB(), 2, numbers(3, 12), api.OK},
		{exampleC(), 0, ints{3, 4}, api.OK}, {nil, 0, numbers(0, 12), api.OK}, {nil, 4, numbers(0, 12), api.OK},
		{exampleE(), 4, nil, api.ErrVoid},
		{exampleA(), -1, nil, api.ErrFigure}, {exampleE(), 5, nil, api.ErrFigure},
	} {
		if l, e := tooth.Ages(exampleJ(), x.l, x.filings); e != x.e || !slices.Equal(l, x.want) {
			t.Errorf("Ages of %v with %d: %v %v, not %v %v", x.l, x.filings, l, e, x.want, x.e)
		}
	}
}

func TestAge(t *testing.T) { // P2.4
	for _, x := range []struct {
		j    api.Jaw
		l    looks
		want api.Range
		e    api.Errno
	}{
		{exampleJ(), exampleA(), api.Range{From: 2, To: 2}, api.OK}, {exampleJ(), exampleB(), api.Range{From: 3, To: 3}, api.OK},
		{exampleJ(), exampleC(), api.Range{From: 3, To: 4}, api.OK}, {exampleJ(), nil, api.Range{From: 0, To: 12}, api.OK},
		{exampleJ(), exampleE(), api.Range{}, api.ErrVoid},
		{exampleJ(), seen(6, 5), api.Range{From: 0, To: 12}, api.OK}, {exampleJ(), seen(0, 5, 0, 4), api.Range{From: 4, To: 12}, api.OK},
		{swinging(), seen(0, 1), api.Range{From: 1, To: 11}, api.OK},
	} {
		if r, e := tooth.Age(x.j, x.l); e != x.e || r != x.want {
			t.Errorf("Age of %v: %v %v, not %v %v", x.l, r, e, x.want, x.e)
		}
	}
}

func TestCount(t *testing.T) { // P2.5
	for _, x := range []struct {
		j    api.Jaw
		l    looks
		want int
	}{
		{exampleJ(), exampleA(), 1}, {exampleJ(), exampleB(), 1}, {exampleJ(), exampleC(), 2}, {exampleJ(), nil, 15}, {exampleJ(), exampleE(), 0},
		{exampleJ(), seen(1, 5), 11}, {exampleJ(), seen(3, 5), 15}, {branching(), seen(0, 0), 1}, {branching(), seen(6, 1, 6, 2), 13}, {branching(), nil, 25},
	} {
		if n, e := tooth.Count(x.j, x.l); e != api.OK || n != x.want {
			t.Errorf("Count of %v: %d %v, not %d", x.l, n, e, x.want)
		}
	}
}

func TestCourse(t *testing.T) { // P2.5
	for _, x := range []struct {
		j    api.Jaw
		l    looks
		age  int
		want ints
		e    api.Errno
	}{
		{exampleJ(), exampleA(), 2, ints{2, 4}, api.OK}, {exampleJ(), exampleB(), 3, ints{3, 4}, api.OK}, {exampleJ(), nil, 0, ints{0}, api.OK},
		{exampleJ(), exampleE(), 0, nil, api.ErrVoid},
		{exampleJ(), seen(4, 5), 0, ints{0, 1, 2, 4, 5}, api.OK},
		{exampleJ(), seen(5, 5), 0, ints{0, 1, 2, 3, 4, 5}, api.OK},                       // the first one in lexicographic order
		{withFiled(1, 3), seen(0, 1, 1, 2, 2, 4), 1, ints{1, 2, 4}, api.OK},               // not the first mouth, but the one without a filing
		{swinging(), seen(0, 0, 1, 0), 0, ints{0, 1}, api.OK},                             // the least age, of all
		{branching(), seen(0, 1, 1, 2), 1, ints{2, 2}, api.OK},                            // a filing at the beginning
		{exampleJ(), seen(1, 3, 1, 4, 1, 4, 1, 3), 2, ints{2, 4}, api.OK},                 // four looks of one year
		{withNext(0, 1, 2), seen(0, 1, 0, 1, 6, 5), 1, ints{1, 2, 3, 4, 5, 5, 5}, api.OK}, // until the last look
	} {
		if age, l, e := tooth.Course(x.j, x.l); e != x.e || age != x.age || !slices.Equal(l, x.want) {
			t.Errorf("Course of %v: %d %v %v, not %d %v %v", x.l, age, l, e, x.age, x.want, x.e)
		}
	}
}

func TestVerdict(t *testing.T) { // P2.6
	for _, x := range []struct {
		j       api.Jaw
		l       looks
		n, want int
		e       api.Errno
	}{
		{exampleJ(), exampleA(), 1, api.Never, api.OK}, {exampleJ(), exampleB(), 0, api.Never, api.OK}, {exampleJ(), exampleB(), 1, api.Surely, api.OK},
		{exampleJ(), exampleB(), 2, 0, api.ErrNobody}, {exampleJ(), exampleB(), -1, 0, api.ErrNobody}, {exampleJ(), nil, 0, 0, api.ErrNobody},
		{exampleJ(), exampleE(), 1, 0, api.ErrVoid}, {exampleJ(), exampleE(), 2, 0, api.ErrNobody},
		{swinging(), seen(0, 0, 1, 0), 0, api.MayBe, api.OK}, {swinging(), seen(0, 0, 1, 0), 1, api.MayBe, api.OK},
		{exampleJ(), seen(0, 3, 0, 4), 0, api.Surely, api.OK}, {exampleJ(), seen(0, 3, 0, 4), 1, api.Never, api.OK},
	} {
		if v, e := tooth.Verdict(x.j, x.l, x.n); e != x.e || v != x.want {
			t.Errorf("Verdict of %v, %d: %d %v, not %d %v", x.l, x.n, v, e, x.want, x.e)
		}
	}
}

func TestSettle(t *testing.T) { // P2.7
	for _, x := range []struct {
		name       string
		j          api.Jaw
		l          looks
		year, ages int
		e          api.Errno
	}{
		{"D", exampleJ(), nil, 0, 9, api.OK},
		{"C", exampleJ(), exampleC(), 0, 0, api.ErrVoid},
		{"A", exampleJ(), exampleA(), 0, 0, api.ErrVoid},
		{"E", exampleJ(), exampleE(), 0, 0, api.ErrVoid},
		{"a year before the last look, with best truths alone", exampleJ(), seen(2, 4), 0, 1, api.OK},
		{"one of two looks is filed", swinging(), seen(0, 0, 0, 1), 0, 7, api.OK},
		{"just as many ages", branching(), seen(0, 1), 0, 0, api.ErrVoid},
		{"one age less", branching(), nil, 0, 12, api.OK},
		{"the first of all years", swinging(), seen(0, 0, 1, 0), 0, 7, api.OK},
	} {
		if y, n, e := tooth.Settle(x.j, x.l); y != x.year || n != x.ages || e != x.e {
			t.Errorf("Settle of %s: %d %d %v, not %d %d %v", x.name, y, n, e, x.year, x.ages, x.e)
		}
	}
}

func TestAlike(t *testing.T) { // P2.8
	for _, x := range []struct {
		j    api.Jaw
		a, b looks
		want bool
	}{
		{exampleJ(), exampleA(), exampleA(), true}, {exampleJ(), exampleA(), exampleB(), false}, {exampleJ(), exampleA(), exampleC(), false}, {exampleJ(), exampleC(), nil, true},
		{exampleJ(), nil, nil, true}, {exampleJ(), exampleE(), nil, false}, {exampleJ(), nil, exampleE(), false}, {exampleJ(), exampleE(), exampleE(), false},
		{exampleJ(), seen(1, 2, 3, 5), seen(0, 1, 2, 4), true},  // between each other
		{exampleJ(), seen(1, 2, 3, 5), seen(0, 1, 2, 3), false}, // one filing more
		{exampleJ(), seen(0, 3, 0, 4), seen(0, 4, 0, 4, 0, 4, 0, 4), true},
		{exampleJ(), seen(0, 3, 0, 4), seen(0, 3, 0, 3), false},                        // more of them are filed together
		{swinging(), seen(0, 0, 0, 0, 1, 0, 1, 0), seen(0, 0, 0, 0, 1, 0, 1, 0), true}, // eight looks, four filings
		{swinging(), seen(0, 0), seen(1, 0), false},
		{branching(), seen(0, 0), seen(0, 1), false}, // no truth together
	} {
		if is, e := tooth.Alike(x.j, x.a, x.b); e != api.OK || is != x.want {
			t.Errorf("Alike of %v and %v: %v %v", x.a, x.b, is, e)
		}
	}
	for _, x := range badLooks() {
		if is, e := tooth.Alike(exampleJ(), exampleE(), x.l); e != x.want || is {
			t.Errorf("%s of the second list: %v %v", x.name, is, e)
		}
		if is, e := tooth.Alike(exampleJ(), x.l, make(looks, 5)); e != x.want || is {
			t.Errorf("%s of the first list: %v %v", x.name, is, e)
		}
	}
}
