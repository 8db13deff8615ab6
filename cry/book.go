package cry

import (
	"sync"

	"palfrey/api"
	"palfrey/mark"
)

// work is a watch at work.
type work struct {
	api.Watch
	lost  []api.Entry
	there set   // the cries that are there, as if there were no other ones
	comes []int // when each cry comes, or late
	books map[known]*look
}

// known is the entries of the fair and the cries of a book.
type known struct{ entries, cries set }

// look is what is seen in a book: for each horse, why it is held. It takes time, so that each book is looked at once, when it is needed.
type look struct {
	once    sync.Once
	reasons [api.MaxEntries][]reason
}

// newWork needs a watch that is valid.
func newWork(w api.Watch) *work {
	x := &work{Watch: w, lost: lost(w.Cries), there: below(len(w.Cries)), books: map[known]*look{}}
	x.comes = x.arrivals()
	return x
}

func lost(cries []api.Cry) []api.Entry {
	var list []api.Entry
	for _, c := range cries {
		list = append(list, c.Lost)
	}
	return list
}

// bookOf returns the fair with the entries of all parts, joined, instead of its own.
func bookOf(f api.Fair, parts ...[]api.Entry) api.Fair {
	f.Entries = nil
	for _, p := range parts {
		f.Entries = append(f.Entries, p...)
	}
	return f
}

// hasWay tells whether the book has a way; one that has an error, such as Most 0, has none.
func hasWay(book api.Fair) bool {
	ways, e := mark.Count(book)
	return e == api.OK && ways > 0
}

func (x *work) knownAt(hour int) known {
	return known{
		entries: those(len(x.Fair.Entries), func(n int) bool { return x.Fair.Entries[n].Hour <= hour }),
		cries:   those(len(x.Cries), func(n int) bool { return x.there.has(n) && x.comes[n] <= hour }),
	}
}

func (x *work) book(k known) api.Fair {
	return bookOf(x.Fair, pick(x.Fair.Entries, k.entries), pick(x.lost, k.cries))
}

// look returns what is seen in the book of what is known.
func (x *work) look(k known) *look {
	l := x.books[k]
	if l == nil {
		l = &look{}
		x.books[k] = l
	}
	l.once.Do(func() { x.read(k, l) })
	return l
}

// read needs no error of Same: if the whole book has a way, so has each part of it.
func (x *work) read(k known, l *look) {
	book, horses := x.book(k), k.entries.list()
	for i, horse := range horses {
		for j, cry := range k.cries.list() {
			verdict, _ := mark.Same(book, i, len(horses)+j)
			if r := reasonOf(cry, verdict); r != nil {
				l.reasons[horse] = append(l.reasons[horse], r)
			}
		}
	}
}

// reason is why a horse is held: a cry of which it may be the one.
type reason interface{ about() int }

type (
	perhaps struct{ cry int }
	surely  struct{ cry int }
)

func (r perhaps) about() int { return r.cry }
func (r surely) about() int  { return r.cry }

// reasonOf returns nil if the horse never is the one of the cry.
func reasonOf(cry, verdict int) reason {
	switch verdict {
	case api.Surely:
		return surely{cry}
	case api.MayBe:
		return perhaps{cry}
	}
	return nil
}

// proves tells whether the horse that is held for this reason surely is the one of the cry.
func proves(r reason, cry int) bool {
	switch r := r.(type) {
	case surely:
		return r.cry == cry
	case perhaps:
		// There is a way in which it is another one.
	}
	return false
}

func (x *work) reasons(hour, horse int) []reason { return x.look(x.knownAt(hour)).reasons[horse] }
