package tooth

import (
	"iter"
	"slices"
	"sync"

	"palfrey/api"
)

// truths yields the mouths of the best truths of the age, which must have some, in lexicographic order. From each mouth the best ones go on to those that need the fewest filings from then on.
func (w *work) truths(age int) iter.Seq[[]int] {
	return func(yield func([]int) bool) {
		var course []int
		var goOn func(to []int) bool
		put := func(m int) bool {
			course = append(course, m)
			defer func() { course = course[:len(course)-1] }()
			if len(course) > w.last {
				return yield(slices.Clone(course))
			}
			return goOn(w.Next[m])
		}
		goOn = func(to []int) bool {
			for _, m := range w.years[len(course)].best(to).all {
				if !put(m) {
					return false
				}
			}
			return true
		}
		goOn(w.at(age).list())
	}
}

// verdict needs a truth. It has seen enough as soon as there is one truth of each sort.
func (w *work) verdict(l api.Look) int {
	var yes, no bool
search:
	for _, age := range w.best.all {
		for course := range w.truths(age) {
			switch w.sight(l, course[l.Year]).(type) {
			case filed:
				yes = true
			case honest:
				no = true
			}
			if yes && no {
				break search
			}
		}
	}
	return verdict(yes, no)
}

// verdict tells what holds in some truths and not in others as both at once: MayBe is Surely and Never together.
func verdict(yes, no bool) int {
	v := 0
	switch {
	case yes:
		v += api.Surely
		if !no {
			break
		}
		fallthrough
	default:
		v += api.Never
	}
	return v
}

// tale is what the best truths of one age tell: how many they are, and the mouths that they have in each year.
type tale struct {
	truths int
	had    [api.ToothYear + 1]mouths
}

func (w *work) tale(age int) tale {
	var t tale
	for course := range w.truths(age) {
		t.truths++
		for year, m := range course {
			t.had[year] = t.had[year].with(m)
		}
	}
	year := w.last
later:
	if year < api.ToothYear {
		t.had[year+1] = t.had[year].through(w.Next)
		year++
		goto later
	}
	return t
}

// tales looks at all ages of best truths side by side. The channel has room for all tales, so that no goroutine waits for it to be read; their order tells nothing.
func (w *work) tales() []tale {
	sent := make(chan tale, len(w.best.all))
	var wait sync.WaitGroup
	for _, age := range w.best.all {
		wait.Add(1)
		go func() {
			defer wait.Done()
			sent <- w.tale(age)
		}()
	}
	wait.Wait()
	close(sent)
	var list []tale
	for t := range sent {
		list = append(list, t)
	}
	return list
}

// settle returns the years in which an honest look leaves the fewest ages at most, whatever it sees.
func (w *work) settle() least[int] {
	var best least[int]
	list := w.tales()
	for year := range api.ToothYear + 1 {
		most := 0
		for m := range w.Next {
			most = max(most, agesWith(list, year, m))
		}
		best.offer(year, most)
	}
	return best
}

func agesWith(list []tale, year, mouth int) int {
	n := 0
	for _, t := range list {
		if t.had[year].has(mouth) {
			n++
		}
	}
	return n
}
