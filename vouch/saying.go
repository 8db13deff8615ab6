package vouch

import "palfrey/api"

type kind int

// The kinds of words, in the order of their numbers in package api.
const (
	saysSo kind = iota
	saysNot
	saysFalse
	saysTrue
	saysIf
	saysSame
	saysMany
)

// arguments returns how many numbers a word of the kind has. One without numbers is no kind.
func (k kind) arguments() int {
	n := 0
	switch k {
	case saysIf, saysSame:
		n++
		fallthrough
	case saysSo, saysNot, saysFalse, saysTrue, saysMany:
		n++
	}
	return n
}

// saying is what a word says, whoever says it.
type saying interface{ isSo(w world) bool }

type (
	factSo  struct{ fact int }
	factNot struct{ fact int }
	factIf  struct{ fact, then int }
	honest  struct{ person int }
	lying   struct{ person int }
	alike   struct{ person, other int }
	many    struct{ least int }
)

func (s factSo) isSo(w world) bool  { return w.so.has(s.fact) }
func (s factNot) isSo(w world) bool { return !w.so.has(s.fact) }
func (s factIf) isSo(w world) bool  { return !w.so.has(s.fact) || w.so.has(s.then) }
func (s honest) isSo(w world) bool  { return !w.liars.has(s.person) }
func (s lying) isSo(w world) bool   { return w.liars.has(s.person) }
func (s alike) isSo(w world) bool   { return w.liars.has(s.person) == w.liars.has(s.other) }
func (s many) isSo(w world) bool    { return w.liars.size() >= s.least }

// sayingOf returns what the word says, or nil if it is of no kind.
func sayingOf(w api.Word) saying {
	switch kind(w.Kind) {
	case saysSo:
		return factSo{w.A}
	case saysNot:
		return factNot{w.A}
	case saysFalse:
		return lying{w.A}
	case saysTrue:
		return honest{w.A}
	case saysIf:
		return factIf{w.A, w.B}
	case saysSame:
		return alike{w.A, w.B}
	case saysMany:
		return many{w.A}
	}
	return nil
}
