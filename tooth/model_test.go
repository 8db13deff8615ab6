package tooth_test

import (
	"slices"

	"palfrey/api"
)

// The model says in the plainest way what the chapter says, so that the package can be held against it.

// truth is a truth, and which of the looks are filed in it.
type truth struct {
	age    int
	mouths []int
	filed  []bool
}

func (v truth) filings() int {
	n := 0
	for _, f := range v.filed {
		n += number(f)
	}
	return n
}

func number(b bool) int {
	if b {
		return 1
	}
	return 0
}

// ordered returns the numbers, ascending, and each of them once.
func ordered(list []int) []int {
	l := slices.Clone(list)
	slices.Sort(l)
	return slices.Compact(l)
}

func modelMouths(j api.Jaw, age int) []int {
	if age == 0 {
		return []int{0}
	}
	var list []int
	for _, m := range modelMouths(j, age-1) {
		list = append(list, j.Next[m]...)
	}
	return ordered(list)
}

func modelPasses(j api.Jaw, age, as int) bool {
	for _, m := range modelMouths(j, age) {
		for _, n := range modelMouths(j, as) {
			if m == n || slices.Contains(j.Filed[m], n) {
				return true
			}
		}
	}
	return false
}

// modelCourses returns all lists of so many mouths that begin with m, in lexicographic order.
func modelCourses(j api.Jaw, m, length int) [][]int {
	if length == 1 {
		return [][]int{{m}}
	}
	var all [][]int
	for _, n := range j.Next[m] {
		for _, l := range modelCourses(j, n, length-1) {
			all = append(all, append([]int{m}, l...))
		}
	}
	return all
}

func modelLast(looks []api.Look) int {
	if len(looks) == 0 {
		return 0
	}
	return looks[len(looks)-1].Year
}

// modelTruths returns all truths, in their order, with mouths until the year last.
func modelTruths(j api.Jaw, looks []api.Look, last int) []truth {
	var all []truth
	for age := range api.ToothAge + 1 {
		for _, m := range modelMouths(j, age) {
			for _, course := range modelCourses(j, m, last+1) {
				if filed, ok := modelSeen(j, looks, course); ok {
					all = append(all, truth{age, course, filed})
				}
			}
		}
	}
	return all
}

func modelSeen(j api.Jaw, looks []api.Look, course []int) (filed []bool, ok bool) {
	for _, l := range looks {
		m := course[l.Year]
		if m != l.Seen && !slices.Contains(j.Filed[m], l.Seen) {
			return nil, false
		}
		filed = append(filed, m != l.Seen)
	}
	return filed, true
}

func modelFewest(all []truth) int {
	n := 99
	for _, v := range all {
		n = min(n, v.filings())
	}
	return n
}

func modelBest(all []truth) []truth {
	n := modelFewest(all)
	return slices.DeleteFunc(slices.Clone(all), func(v truth) bool { return v.filings() > n })
}

// modelAges returns the ages of truths with at most so many filed looks.
func modelAges(all []truth, filings int) []int {
	var list []int
	for _, v := range all {
		if v.filings() <= filings {
			list = append(list, v.age)
		}
	}
	return ordered(list)
}

func modelVerdict(best []truth, look int) int {
	yes := 0
	for _, v := range best {
		yes += number(v.filed[look])
	}
	switch yes {
	case len(best):
		return api.Surely
	case 0:
		return api.Never
	}
	return api.MayBe
}

// modelMost returns the greatest number of ages of best truths, which go on until the year, for one mouth of this year.
func modelMost(best []truth, year int) int {
	most := 0
	for m := range api.ToothMouths {
		var list []int
		for _, v := range best {
			if v.mouths[year] == m {
				list = append(list, v.age)
			}
		}
		most = max(most, len(ordered(list)))
	}
	return most
}

// together returns all looks in the order of their years.
func together(lists ...[]api.Look) []api.Look {
	all := slices.Concat(lists...)
	slices.SortStableFunc(all, func(a, b api.Look) int { return a.Year - b.Year })
	return all
}

func modelAlike(j api.Jaw, a, b []api.Look) bool {
	all := together(a, b)
	x, y := modelTruths(j, a, modelLast(a)), modelTruths(j, b, modelLast(b))
	if len(x) == 0 || len(y) == 0 {
		return false
	}
	return modelFewest(modelTruths(j, all, modelLast(all))) <= modelFewest(x)+modelFewest(y)
}

// dice are thrown the same way in each run.
type dice uint64

func (d *dice) roll(n int) int {
	*d ^= *d << 13
	*d ^= *d >> 7
	*d ^= *d << 17
	return int(uint64(*d) >> 11 % uint64(n))
}

func (d *dice) one(list []int) int { return list[d.roll(len(list))] }

// some returns from least to most of the numbers, ascending; fewer if there are not so many.
func (d *dice) some(list []int, least, most int) []int {
	left, out := slices.Clone(list), []int{}
	for range least + d.roll(most-least+1) {
		if len(left) == 0 {
			break
		}
		n := d.roll(len(left))
		out = append(out, left[n])
		left = slices.Delete(left, n, n+1)
	}
	slices.Sort(out)
	return out
}

func numbers(from, to int) []int {
	var list []int
	for n := from; n <= to; n++ {
		list = append(list, n)
	}
	return list
}

// jaw returns one in which mouths get older and are filed to look younger, or one in which anything goes.
func (d *dice) jaw() api.Jaw {
	last := d.roll(api.ToothMouths)
	ageing, wide := d.roll(3) > 0, 1+d.roll(2)
	var j api.Jaw
	for m := range last + 1 {
		next, filed := numbers(0, last), append(numbers(0, m-1), numbers(m+1, last)...)
		if ageing {
			next, filed = numbers(min(m+1, last), min(m+2, last)), numbers(max(m-2, 0), m-1)
		}
		if ageing && d.roll(4) == 0 {
			next = numbers(m, min(m+1, last))
		}
		j.Next = append(j.Next, d.some(next, 1, wide))
		j.Filed = append(j.Filed, d.some(filed, 0, api.ToothFiled))
	}
	return j
}

// course returns the age of some horse in the year 0, and its mouths until the year last.
func (d *dice) course(j api.Jaw, last int) (age int, mouths []int) {
	age = d.roll(api.ToothAge + 1)
	if d.roll(2) == 0 {
		age = d.roll(4)
	}
	mouths = []int{d.one(modelMouths(j, age))}
	for y := range last {
		mouths = append(mouths, d.one(j.Next[mouths[y]]))
	}
	return age, mouths
}

// years returns so many years, each one not less than the one before.
func (d *dice) years(many int) []int {
	var list []int
	for range many {
		list = append(list, d.roll(api.ToothYear+1))
	}
	slices.Sort(list)
	return list
}

// looks returns so many looks, most of them into one horse's mouth; some are filed, some may be of any mouth.
func (d *dice) looks(j api.Jaw, many int) []api.Look {
	_, mouths := d.course(j, api.ToothYear)
	var list []api.Look
	for _, y := range d.years(many) {
		seen := mouths[y]
		if filed := j.Filed[seen]; len(filed) > 0 && d.roll(3) == 0 {
			seen = d.one(filed)
		}
		if d.roll(8) == 0 {
			seen = d.roll(len(j.Next))
		}
		list = append(list, api.Look{Year: y, Seen: seen})
	}
	return list
}

// sample is a jaw, looks, and all that is so of them.
type sample struct {
	j     api.Jaw
	looks []api.Look
	all   []truth
	best  []truth
}

func newSample(j api.Jaw, looks []api.Look) sample {
	all := modelTruths(j, looks, modelLast(looks))
	return sample{j, looks, all, modelBest(all)}
}

func samples(many int) []sample {
	d := dice(20261119)
	var list []sample
	for i := range many {
		j := d.jaw()
		list = append(list, newSample(j, d.looks(j, i%(api.ToothLooks+1))))
	}
	return list
}

// possible returns the samples that have a truth.
func possible(list []sample) []sample {
	return slices.DeleteFunc(list, func(s sample) bool { return len(s.all) == 0 })
}
