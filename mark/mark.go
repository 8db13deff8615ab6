// Package mark tells which entries of a toll book are one horse, by coats, marks, heights and hours (chapter 1 of the document).
package mark

import (
	"slices"

	"palfrey/api"
)

// Check returns the first error of the fair.
func Check(f api.Fair) api.Errno {
	if e := checkRoads(f.Roads); e != api.OK {
		return e
	}
	if e := checkNumbers(f); e != api.OK {
		return e
	}
	return checkEntries(f)
}

// Can returns whether the entries can be one horse.
func Can(f api.Fair, entries []int) (bool, api.Errno) {
	w, e := beginList(f, entries)
	if e != api.OK {
		return false, e
	}
	return w.why(entries) == nil, api.OK
}

// Heights returns all heights of the horse, ascending, that the entries leave.
func Heights(f api.Fair, entries []int) ([]int, api.Errno) {
	w, e := beginList(f, entries)
	if e != api.OK {
		return nil, e
	}
	return w.heights(entries), api.OK
}

// Reason returns why x and y cannot be one horse, or 0 if they can.
func Reason(f api.Fair, x, y int) (int, api.Errno) {
	w, e := begin(f, x, y)
	if e != api.OK {
		return 0, e
	}
	return code(w.why([]int{x, y})), api.OK
}

// Count returns the number of ways.
func Count(f api.Fair) (int, api.Errno) {
	w, e := begin(f)
	if e != api.OK {
		return 0, e
	}
	return w.count(), api.OK
}

// Horses returns the least and the greatest number of horses in a way.
func Horses(f api.Fair) (api.Range, api.Errno) {
	w, e := beginParted(f)
	if e != api.OK {
		return api.Range{}, e
	}
	r := api.Range{From: api.MaxEntries}
	for v := range w.all() {
		r.From, r.To = min(r.From, len(v)), max(r.To, len(v))
	}
	return r, api.OK
}

// Fewest returns the first way with the fewest horses, and how many these are.
func Fewest(f api.Fair) (way []int, horses int, e api.Errno) {
	w, e := beginParted(f)
	if e != api.OK {
		return nil, 0, e
	}
	var best least[parting]
	for v := range w.all() {
		best.offer(v, len(v))
	}
	return best.value.numbers(len(w.Entries)), best.cost, api.OK
}

// Same returns whether x and y are one horse: surely, never, or perhaps.
func Same(f api.Fair, x, y int) (int, api.Errno) {
	w, e := beginParted(f, x, y)
	if e != api.OK {
		return 0, e
	}
	return w.verdict(func(v parting) bool { return v.joins(x, y) }), api.OK
}

// Groups returns the entries that surely are one horse with each other, as a list like a way.
func Groups(f api.Fair) ([]int, api.Errno) {
	w, e := beginParted(f)
	if e != api.OK {
		return nil, e
	}
	return w.groups(), api.OK
}

// Alone returns whether x is the only entry of its horse: surely, never, or perhaps.
func Alone(f api.Fair, x int) (int, api.Errno) {
	w, e := beginParted(f, x)
	if e != api.OK {
		return 0, e
	}
	only := horse{}.with(x)
	return w.verdict(func(v parting) bool { return v.of(x) == only }), api.OK
}

// Through returns all entries, ascending, that are one horse with x and y whenever these are one.
func Through(f api.Fair, x, y int) ([]int, api.Errno) {
	w, e := beginParted(f, x, y)
	if e != api.OK {
		return nil, e
	}
	l := w.through(x, y)
	if len(l) == 0 {
		return nil, api.ErrVoid
	}
	return l, api.OK
}

// Wrong returns the fewest entries without which there is a way for the others.
func Wrong(f api.Fair) ([]int, api.Errno) {
	w, e := begin(f)
	if e != api.OK {
		return nil, e
	}
	return w.wrong(), api.OK
}

// Next returns the two entries of which it helps most to know whether they are one horse, and how many ways are left at most.
func Next(f api.Fair) (x, y, left int, e api.Errno) {
	w, e := beginParted(f)
	if e != api.OK {
		return 0, 0, 0, e
	}
	best := w.next()
	if !best.found || best.cost >= w.count() {
		return 0, 0, 0, api.ErrVoid
	}
	return best.value.x, best.value.y, best.cost, api.OK
}

// Add returns the fair with one entry more, unless this takes away all its ways.
func Add(f api.Fair, n api.Entry) (api.Fair, api.Errno) {
	w, e := begin(f)
	if e != api.OK {
		return api.Fair{}, e
	}
	if len(f.Entries) == api.MaxEntries {
		return api.Fair{}, api.ErrOver
	}
	if e := checkEntry(n, len(f.Roads)); e != api.OK {
		return api.Fair{}, e
	}
	more := clone(f)
	n.Marks = slices.Clone(n.Marks)
	more.Entries = append(more.Entries, n)
	if w.parted() && !newWork(more).parted() {
		return api.Fair{}, api.ErrFalse
	}
	return more, api.OK
}
