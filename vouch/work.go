package vouch

import (
	"iter"
	"slices"
	"sync"
	"sync/atomic"

	"palfrey/api"
)

// speech is what somebody has said.
type speech struct {
	by int
	saying
}

// work is vouchers at work. It is not changed once it is made, so that goroutines can share it.
type work struct {
	api.Vouch
	said []speech
}

// newWork needs words that are valid.
func newWork(v api.Vouch) *work {
	x := &work{Vouch: v}
	for _, w := range v.Words {
		x.said = append(x.said, speech{w.By, sayingOf(w)})
	}
	return x
}

// all yields all worlds, whether they can be or not.
func (x *work) all() iter.Seq[world] {
	return func(yield func(w world) bool) {
		for liars := range 1 << x.Persons {
			for so := range 1 << x.Facts {
				if !yield(world{set(liars), set(so)}) {
					return
				}
			}
		}
	}
}

// heard returns the world with those persons as liars of whom a word is not so in it. A world can be if it stays as it is.
func (x *work) heard(w world) world {
	h := world{so: w.so}
	for _, s := range x.said {
		if !s.isSo(w) {
			h.liars |= single(s.by)
		}
	}
	return h
}

func (x *work) hindering(w world) set { return x.heard(w).liars ^ w.liars }

// lookers is how many goroutines look at worlds.
const lookers = 4

// possible returns the worlds that can be.
func (x *work) possible() worlds {
	list := slices.Collect(x.all())
	heard := worlds{}
	var next atomic.Int64
	var lock sync.Mutex
	var wait sync.WaitGroup
	for range lookers {
		wait.Add(1)
		go func() {
			defer wait.Done()
			for n := next.Add(1); n <= int64(len(list)); n = next.Add(1) {
				w := list[n-1]
				h := x.heard(w)
				lock.Lock()
				heard[w] = h
				lock.Unlock()
			}
		}()
	}
	wait.Wait()
	for w, h := range heard {
		if h != w {
			delete(heard, w)
		}
	}
	return heard
}

// known returns the worlds that can be, of which there must be one.
func (x *work) known() worlds {
	can := x.possible()
	need(len(can) > 0, api.ErrVoid)
	return can
}

// remaining returns the worlds that can be, or the best ones of them.
func (x *work) remaining(best bool) worlds {
	can := x.known()
	if best {
		return can.best()
	}
	return can
}

func (x *work) with(w api.Word) *work {
	v := x.Vouch
	v.Words = append(v.Words[:len(v.Words):len(v.Words)], w)
	return newWork(v)
}

// without leaves words out, the last one first, so that the others keep their numbers until then. Without room behind what comes before, append makes a new list.
func (x *work) without(words ...int) *work {
	v := x.Vouch
	for _, i := range slices.Backward(words) {
		v.Words = append(v.Words[:i:i], v.Words[i+1:]...)
	}
	return newWork(v)
}
