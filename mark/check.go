package mark

import (
	"errors"
	"slices"
	"strconv"

	"palfrey/api"
)

func outside(n, from, to int) bool { return n < from || n > to }

func checkRoads(roads [][]int) api.Errno {
	if len(roads) == 0 {
		return api.ErrUnder
	}
	if len(roads) > api.MaxSpots {
		return api.ErrOver
	}
	for _, l := range roads {
		if len(l) != len(roads) {
			return api.ErrFalse
		}
		for _, n := range l {
			if outside(n, 0, api.MaxRoad) {
				return api.ErrFigure
			}
		}
	}
	if !agree(roads) {
		return api.ErrFalse
	}
	return api.OK
}

// agree needs a square of roads: it runs after each list has been looked at.
func agree(roads [][]int) bool {
	for a, l := range roads {
		if l[a] != 0 {
			return false
		}
		for b, n := range l {
			if n != roads[b][a] {
				return false
			}
			for c := range roads {
				if n > l[c]+roads[c][b] {
					return false
				}
			}
		}
	}
	return true
}

func checkNumbers(f api.Fair) api.Errno {
	if outside(f.Shoe.From, 0, api.MaxShoe) || outside(f.Shoe.To, 0, api.MaxShoe) {
		return api.ErrFigure
	}
	if f.Shoe.From > f.Shoe.To {
		return api.ErrTurn
	}
	if outside(f.Dye, 1, api.MaxDye) || outside(f.Most, 1, api.MaxEntries) {
		return api.ErrFigure
	}
	return api.OK
}

func checkEntries(f api.Fair) api.Errno {
	if len(f.Entries) > api.MaxEntries {
		return api.ErrOver
	}
	for _, n := range f.Entries {
		if e := checkEntry(n, len(f.Roads)); e != api.OK {
			return e
		}
	}
	return api.OK
}

func checkEntry(n api.Entry, places int) api.Errno {
	if outside(n.Hour, 0, api.MaxHour) {
		return api.ErrFigure
	}
	if outside(n.Place, 0, places-1) {
		return api.ErrNobody
	}
	if outside(n.Coat, 0, api.MaxCoat) {
		return api.ErrFigure
	}
	if e := checkMarks(n.Marks); e != api.OK {
		return e
	}
	if outside(n.Height, 0, api.MaxHeight) {
		return api.ErrFigure
	}
	if outside(n.Shod, api.Bare, api.Unsure) {
		return api.ErrClass
	}
	return api.OK
}

func checkMarks(list []int) api.Errno {
	for i, n := range list {
		if outside(n, 0, api.MaxMark) {
			return api.ErrNobody
		}
		if i > 0 && n <= list[i-1] {
			return api.ErrTurn
		}
	}
	return api.OK
}

// listError is the error of a list of entries, and the index at which it is.
type listError struct {
	at   int
	code api.Errno
}

func (l listError) Error() string {
	return "entry list at " + strconv.Itoa(l.at) + ": " + l.code.Error()
}

func checkList(entries []int, limit int) error {
	if len(entries) == 0 {
		return listError{0, api.ErrUnder}
	}
	for i, n := range entries {
		if outside(n, 0, limit-1) {
			return listError{i, api.ErrNobody}
		}
		if i > 0 && n <= entries[i-1] {
			return listError{i, api.ErrTurn}
		}
	}
	return nil
}

// begin returns the fair at work, unless it has an error, or one of the numbers is no entry.
func begin(f api.Fair, entries ...int) (*work, api.Errno) {
	if e := Check(f); e != api.OK {
		return nil, e
	}
	for _, n := range entries {
		if outside(n, 0, len(f.Entries)-1) {
			return nil, api.ErrNobody
		}
	}
	return newWork(f), api.OK
}

// beginList is begin for a list of entries, which has errors of its own.
func beginList(f api.Fair, entries []int) (*work, api.Errno) {
	w, e := begin(f)
	if e != api.OK {
		return nil, e
	}
	var bad listError
	if errors.As(checkList(entries, len(f.Entries)), &bad) {
		return nil, bad.code
	}
	return w, api.OK
}

// beginParted is begin for what can only be said if there is a way.
func beginParted(f api.Fair, entries ...int) (*work, api.Errno) {
	w, e := begin(f, entries...)
	if e != api.OK {
		return nil, e
	}
	if !w.parted() {
		return nil, api.ErrVoid
	}
	return w, api.OK
}

// clone copies all that a fair points to, too, so that no memory is shared.
func clone(f api.Fair) api.Fair {
	roads := make([][]int, len(f.Roads))
	for i, l := range f.Roads {
		roads[i] = slices.Clone(l)
	}
	entries := slices.Clone(f.Entries)
	for i := range entries {
		entries[i].Marks = slices.Clone(entries[i].Marks)
	}
	f.Roads, f.Entries = roads, entries
	return f
}
