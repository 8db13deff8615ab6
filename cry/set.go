package cry

// set is numbers of entries, or of cries: a bit for each.
type set uint8

// Sets of one cry.
const (
	firstCry set = 1 << iota
	secondCry
	thirdCry
)

// crySets returns all sets of cries, those of fewer cries first, and those of as many in lexicographic order.
func crySets() []set {
	return []set{
		0,
		firstCry, secondCry, thirdCry,
		firstCry | secondCry, firstCry | thirdCry, secondCry | thirdCry,
		firstCry | secondCry | thirdCry,
	}
}

// those returns the set of the numbers less than limit of which something holds.
func those(limit int, holds func(n int) bool) set {
	var s set
	for n := range limit {
		if holds(n) {
			s |= 1 << n
		}
	}
	return s
}

func below(limit int) set { return 1<<limit - 1 }

func (s set) has(n int) bool { return s>>n&1 == 1 }

func (s set) isPartOf(t set) bool { return s&^t == 0 }

// list returns the numbers of the set, ascending.
func (s set) list() []int {
	var list []int
	for n := 0; s>>n > 0; n++ {
		if s.has(n) {
			list = append(list, n)
		}
	}
	return list
}

// pick returns the things whose numbers are in the set.
func pick[T any](things []T, s set) []T {
	var picked []T
	for _, n := range s.list() {
		picked = append(picked, things[n])
	}
	return picked
}

// wish is what is looked for.
type wish[T any] struct{ fits func(thing T) bool }

// firstOf returns the first one of the things that fits, of which there must be one.
func firstOf[T any](things []T, w wish[T]) T {
	var found T
	for _, thing := range things {
		if w.fits(thing) {
			found = thing
			break
		}
	}
	return found
}
