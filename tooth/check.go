package tooth

import (
	"errors"
	"strings"

	"palfrey/api"
)

func outside(n, from, to int) bool { return n < from || n > to }

// checkNumber is for what is numbered from 0: so many mouths, or looks.
func checkNumber(n, many int) api.Errno {
	if outside(n, 0, many-1) {
		return api.ErrNobody
	}
	return api.OK
}

func checkFigure(n, most int) api.Errno {
	if outside(n, 0, most) {
		return api.ErrFigure
	}
	return api.OK
}

func checkAge(age int) api.Errno { return checkFigure(age, api.ToothAge) }

// checkMouths is for a list of mouths without barred, which may be no mouth at all.
func checkMouths(list []int, many, barred int) api.Errno {
	for i, m := range list {
		if e := checkNumber(m, many); e != api.OK {
			return e
		}
		if m == barred {
			return api.ErrClass
		}
		if i > 0 && m <= list[i-1] {
			return api.ErrTurn
		}
	}
	return api.OK
}

// checkNext bars none: a mouth may stay as it is for years.
func checkNext(j api.Jaw, mouth int) api.Errno {
	list := j.Next[mouth]
	if len(list) == 0 {
		return api.ErrUnder
	}
	if len(list) > api.ToothNext {
		return api.ErrOver
	}
	return checkMouths(list, len(j.Next), -1)
}

func checkFiled(j api.Jaw, mouth int) api.Errno {
	list := j.Filed[mouth]
	if len(list) > api.ToothFiled {
		return api.ErrOver
	}
	return checkMouths(list, len(j.Next), mouth)
}

// checkLooks needs no valid jaw, so that it can be called beside Check.
func checkLooks(j api.Jaw, looks []api.Look) api.Errno {
	if len(looks) > api.ToothLooks {
		return api.ErrOver
	}
	for i, l := range looks {
		if e := checkFigure(l.Year, api.ToothYear); e != api.OK {
			return e
		}
		if i > 0 && l.Year < looks[i-1].Year {
			return api.ErrTurn
		}
		if e := checkNumber(l.Seen, len(j.Next)); e != api.OK {
			return e
		}
	}
	return api.OK
}

// faults is the errors of a call's arguments, in the order of the chapter.
type faults []api.Errno

func (f faults) Error() string {
	var list []string
	for _, e := range f {
		list = append(list, e.Error())
	}
	return strings.Join(list, ", ")
}

func faultsOf(list []api.Errno) error {
	var f faults
	for _, e := range list {
		if e != api.OK {
			f = append(f, e)
		}
	}
	if len(f) == 0 {
		return nil
	}
	return f
}

// first returns the first error of what was found of the arguments one by one.
func first(list ...api.Errno) api.Errno {
	var f faults
	if errors.As(faultsOf(list), &f) {
		return f[0]
	}
	return api.OK
}

// begin returns the jaw and the looks at work, unless they have an error, or there is one among the others.
func begin(j api.Jaw, looks []api.Look, others ...api.Errno) (*work, api.Errno) {
	if e := first(CheckLooks(j, looks), first(others...)); e != api.OK {
		return nil, e
	}
	return newWork(j, looks), api.OK
}

// beginTrue is begin for what can only be said if there is a truth.
func beginTrue(j api.Jaw, looks []api.Look, others ...api.Errno) (*work, api.Errno) {
	w, e := begin(j, looks, others...)
	if e != api.OK {
		return nil, e
	}
	if !w.isTrue() {
		return nil, api.ErrVoid
	}
	return w, api.OK
}
