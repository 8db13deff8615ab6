package mark_test

import (
	"slices"
	"testing"

	"palfrey/api"
	"palfrey/mark"
)

// must returns what a call has returned, and makes an error of it that it should not have returned.
func must[T any](t *testing.T) func(v T, e api.Errno) T {
	return func(v T, e api.Errno) T {
		t.Helper()
		if e != api.OK {
			t.Errorf("%v", e)
		}
		return v
	}
}

// seen makes sure that a test has met each of the cases that it is about.
type seen map[string]int

func (s seen) need(t *testing.T, cases ...string) {
	t.Helper()
	for _, c := range cases {
		if s[c] == 0 {
			t.Errorf("no fair was about: %s", c)
		}
	}
}

// parted returns those fairs that have a way.
func parted(list []api.Fair) []api.Fair {
	return slices.DeleteFunc(list, func(f api.Fair) bool {
		n, e := mark.Count(f)
		return n == 0 || e != api.OK
	})
}

func TestAllWays(t *testing.T) { // P1.9, and P0: exact over all ways
	met := seen{}
	for i, f := range fairs(400, api.MaxEntries) {
		ways := modelWays(f)
		if n := must[int](t)(mark.Count(f)); n != len(ways) {
			t.Fatalf("fair %d: Count is %d, not %d", i, n, len(ways))
		}
		if len(ways) == 0 {
			met["no way"]++
			noWays(t, i, f)
			continue
		}
		met["ways"]++
		want := api.Range{From: horsesOf(ways[0])}
		for _, l := range ways {
			want.From, want.To = min(want.From, horsesOf(l)), max(want.To, horsesOf(l))
		}
		if r := must[api.Range](t)(mark.Horses(f)); r != want {
			t.Errorf("fair %d: Horses is %v, not %v", i, r, want)
		}
		for x := range f.Entries {
			sameAndAlone(t, i, f, ways, x, met)
		}
	}
	met.need(t, "no way", "ways", "same 1", "same 2", "same 3", "alone 1", "alone 2", "alone 3")
}

func noWays(t *testing.T, i int, f api.Fair) {
	r, a := mark.Horses(f)
	way, horses, b := mark.Fewest(f)
	l, c := mark.Groups(f)
	x, y, left, d := mark.Next(f)
	v, e := mark.Same(f, 0, 0)
	u, g := mark.Alone(f, 0)
	m, h := mark.Through(f, 0, 0)
	if got := []api.Errno{a, b, c, d, e, g, h}; !slices.Equal(got, slices.Repeat([]api.Errno{api.ErrVoid}, 7)) {
		t.Errorf("fair %d without a way: %v", i, got)
	}
	if r != (api.Range{}) || len(way)+horses+len(l)+x+y+left+v+u+len(m) != 0 {
		t.Errorf("fair %d without a way: results with an error", i)
	}
}

func sameAndAlone(t *testing.T, i int, f api.Fair, ways [][]int, x int, met seen) {
	verdicts := []string{api.Surely: " 1", api.Never: " 2", api.MayBe: " 3"}
	want := modelVerdict(ways, func(l []int) bool { return len(members(l, l[x])) == 1 })
	met["alone"+verdicts[want]]++
	if v := must[int](t)(mark.Alone(f, x)); v != want {
		t.Errorf("fair %d: Alone of %d is %d, not %d", i, x, v, want)
	}
	for y := range f.Entries {
		want := modelVerdict(ways, func(l []int) bool { return l[x] == l[y] })
		if x != y {
			met["same"+verdicts[want]]++
		}
		if v := must[int](t)(mark.Same(f, x, y)); v != want {
			t.Errorf("fair %d: Same of %d %d is %d, not %d", i, x, y, v, want)
		}
	}
}

func TestSureOfThree(t *testing.T) { // P1.10, and Groups of P1.5
	met := seen{}
	for i, f := range parted(fairs(400, api.MaxEntries)) {
		same := func(x, y int) int { return must[int](t)(mark.Same(f, x, y)) }
		groups := must[[]int](t)(mark.Groups(f))
		if len(groups) != len(f.Entries) || !written(groups) {
			t.Fatalf("fair %d: Groups is %v", i, groups)
		}
		for x := range f.Entries {
			for y := range f.Entries {
				if same(x, y) != same(y, x) {
					t.Errorf("fair %d: Same depends on the order of %d %d", i, x, y)
				}
				if (same(x, y) == api.Surely) != (groups[x] == groups[y]) {
					t.Errorf("fair %d: Groups is %v for %d %d", i, groups, x, y)
				}
				for z := range f.Entries {
					if x == y || y == z || x == z || same(x, y) != api.Surely || same(y, z) != api.Surely {
						continue
					}
					met["three"]++
					if same(x, z) != api.Surely {
						t.Errorf("fair %d: %d %d %d", i, x, y, z)
					}
				}
			}
		}
	}
	met.need(t, "three")
}

func TestMoreEntries(t *testing.T) { // P1.11
	met := seen{}
	for i, f := range parted(fairs(800, api.MaxEntries)) {
		if len(f.Entries) == 0 {
			continue
		}
		less := keep(f, which(len(f.Entries)-1)...)
		for x := range less.Entries {
			for y := range x {
				before := must[int](t)(mark.Same(less, x, y))
				after := must[int](t)(mark.Same(f, x, y))
				if before == api.MayBe {
					continue
				}
				met[[]string{api.Surely: "surely", api.Never: "never"}[before]]++
				if after != before {
					t.Errorf("fair %d: Same of %d %d was %d, is %d", i, x, y, before, after)
				}
			}
		}
	}
	met.need(t, "surely", "never")
}

// which returns the numbers from 0 to less than limit.
func which(limit int) []int {
	list := make([]int, limit)
	for n := range list {
		list[n] = n
	}
	return list
}

func TestQuicker(t *testing.T) { // P1.12
	met := seen{}
	more := func(i int, name string, f, g api.Fair) {
		before, after := must[int](t)(mark.Count(f)), must[int](t)(mark.Count(g))
		if after < before {
			t.Errorf("fair %d: %s: %d ways, then %d", i, name, before, after)
		}
		if after > before {
			met[name]++
		}
	}
	for i, f := range fairs(400, api.MaxEntries) {
		short := make([][]int, len(f.Roads))
		for a, l := range f.Roads {
			for _, n := range l {
				short[a] = append(short[a], min(n, 1))
			}
		}
		more(i, "roads", f, change(f, func(f *api.Fair) { f.Roads = short }))
		more(i, "dye", f, change(f, func(f *api.Fair) { f.Dye = max(1, f.Dye-2) }))
		more(i, "most", f, change(f, func(f *api.Fair) { f.Most++ }))
	}
	met.need(t, "roads", "dye", "most")
}

func TestFewestOfAll(t *testing.T) { // P1.13
	met := seen{}
	for i, f := range parted(fairs(400, api.MaxEntries)) {
		ways := modelWays(f)
		way, horses, e := mark.Fewest(f)
		at := slices.IndexFunc(ways, func(l []int) bool { return slices.Equal(l, way) })
		if e != api.OK || at < 0 || horses != horsesOf(way) {
			t.Fatalf("fair %d: %v %d %v", i, way, horses, e)
		}
		if at > 0 {
			met["not the first way"]++
		}
		for j, l := range ways {
			if horsesOf(l) < horses || j < at && horsesOf(l) == horses {
				t.Errorf("fair %d: %v, not %v", i, way, l)
			}
		}
	}
	met.need(t, "not the first way")
}

func TestWrongOfAll(t *testing.T) { // P1.14
	met := seen{}
	for i, f := range fairs(800, api.MaxEntries) {
		wrong := must[[]int](t)(mark.Wrong(f))
		for _, l := range parts(len(f.Entries)) {
			n := must[int](t)(mark.Count(without(f, l)))
			if slices.Equal(l, wrong) {
				met[[]string{"none", "one", "more", "more", "more", "more"}[len(wrong)]]++
				if n == 0 {
					t.Errorf("fair %d: no way without %v", i, wrong)
				}
				break
			}
			if n != 0 {
				t.Errorf("fair %d: %v, not %v", i, wrong, l)
				break
			}
		}
	}
	met.need(t, "none", "one", "more")
}

func TestNextOfAll(t *testing.T) { // P1.15
	met := seen{}
	for i, f := range parted(fairs(400, api.MaxEntries)) {
		ways := modelWays(f)
		least, pair := len(ways), [2]int{}
		for x := range f.Entries {
			for y := x + 1; y < len(f.Entries); y++ {
				together := 0
				for _, l := range ways {
					if l[x] == l[y] {
						together++
					}
				}
				if left := max(together, len(ways)-together); left < least {
					least, pair = left, [2]int{x, y}
				}
			}
		}
		x, y, left, e := mark.Next(f)
		if least == len(ways) {
			met["void"]++
			if x != 0 || y != 0 || left != 0 || e != api.ErrVoid {
				t.Errorf("fair %d: %d %d %d %v", i, x, y, left, e)
			}
			continue
		}
		if pair != [2]int{0, 1} {
			met["another pair"]++
		}
		if [2]int{x, y} != pair || left != least || e != api.OK {
			t.Errorf("fair %d: %d %d %d %v, not %v %d", i, x, y, left, e, pair, least)
		}
	}
	met.need(t, "void", "another pair")
}

func TestParts(t *testing.T) { // P1.16, and Can and Reason of P1.2
	met := seen{}
	for i, f := range fairs(200, api.MaxEntries) {
		can := func(l []int) bool { return must[bool](t)(mark.Can(f, l)) }
		for _, l := range parts(len(f.Entries))[1:] {
			if can(l) != (modelReason(f, l) == 0) {
				t.Fatalf("fair %d: Can of %v is %v", i, l, can(l))
			}
			for n := range l {
				if rest := slices.Delete(slices.Clone(l), n, n+1); len(rest) > 0 && can(l) && !can(rest) {
					t.Errorf("fair %d: %v, but not %v", i, l, rest)
				}
			}
			if len(l) != 2 {
				continue
			}
			r := must[int](t)(mark.Reason(f, l[0], l[1]))
			met[[]string{"none", "coat", "height", "hours"}[r]]++
			if r != modelReason(f, l) || can(l) != (r == 0) {
				t.Errorf("fair %d: Reason of %v is %d", i, l, r)
			}
		}
	}
	met.need(t, "none", "coat", "height", "hours")
}

func TestHeightsOfEach(t *testing.T) { // P1.17, and Heights of P1.2
	met := seen{}
	for i, f := range fairs(100, api.MaxEntries) {
		left := make([][]int, len(f.Entries))
		for n := range left {
			left[n] = must[[]int](t)(mark.Heights(f, []int{n}))
		}
		for _, l := range parts(len(f.Entries))[1:] {
			all := must[[]int](t)(mark.Heights(f, l))
			if !slices.Equal(all, modelHeights(f, l)) {
				t.Errorf("fair %d: Heights of %v is %v", i, l, all)
			}
			for h := -api.MaxShoe; h <= api.MaxHeight; h++ {
				each := true
				for _, n := range l {
					each = each && slices.Contains(left[n], h)
				}
				if each != slices.Contains(all, h) {
					t.Errorf("fair %d: the height %d of %v", i, h, l)
				}
			}
			if len(l) > 1 {
				met[[]string{"none", "one", "more", "more", "more"}[len(all)]]++
			}
		}
	}
	met.need(t, "none", "one", "more")
}

func TestAloneOrNot(t *testing.T) { // P1.18
	met := seen{}
	for i, f := range parted(fairs(400, api.MaxEntries)) {
		for x := range f.Entries {
			others := []int{}
			for y := range f.Entries {
				if x != y && must[int](t)(mark.Same(f, x, y)) != api.Never {
					others = append(others, y)
				}
			}
			switch must[int](t)(mark.Alone(f, x)) {
			case api.Surely:
				met["surely"]++
				if len(others) > 0 {
					t.Errorf("fair %d: %d is alone, and one with %v", i, x, others)
				}
			case api.Never:
				met["never"]++
				if len(others) == 0 {
					t.Errorf("fair %d: %d is not alone, and one with none", i, x)
				}
			}
		}
	}
	met.need(t, "surely", "never")
}

func TestThroughOfAll(t *testing.T) { // P1.19, and Through of P1.6
	met := seen{}
	for i, f := range parted(fairs(400, api.MaxEntries)) {
		ways := modelWays(f)
		for x := range f.Entries {
			for y := range f.Entries {
				l, e := mark.Through(f, x, y)
				if !slices.Equal(l, modelThrough(ways, x, y)) {
					t.Errorf("fair %d: Through of %d %d is %v", i, x, y, l)
				}
				if e == api.ErrVoid {
					met["void"]++
					if len(l) > 0 || must[int](t)(mark.Same(f, x, y)) != api.Never {
						t.Errorf("fair %d: Through of %d %d is %v %v", i, x, y, l, e)
					}
					continue
				}
				if len(l) > 2 {
					met["more than two"]++
				}
				for n := range f.Entries {
					sure := n == x || n == y || must[int](t)(mark.Same(f, n, x)) == api.Surely || must[int](t)(mark.Same(f, n, y)) == api.Surely
					if sure && !slices.Contains(l, n) {
						t.Errorf("fair %d: Through of %d %d is %v, without %d", i, x, y, l, n)
					}
				}
			}
		}
	}
	met.need(t, "void", "more than two")
}

func TestLater(t *testing.T) { // P1.20
	met := seen{}
	for i, f := range fairs(60, api.MaxEntries) {
		last := 0
		for _, n := range f.Entries {
			last = max(last, n.Hour)
		}
		later := f
		later.Entries = slices.Clone(f.Entries)
		for n := range later.Entries {
			later.Entries[n].Hour += api.MaxHour - last
		}
		if last < api.MaxHour {
			met["later"]++
		}
		if a, b := everything(f), everything(later); !slices.Equal(a, b) {
			t.Errorf("fair %d: %v, later %v", i, a, b)
		}
	}
	met.need(t, "later")
}

func TestRenumbered(t *testing.T) { // P1.21
	met := seen{}
	d := dice(7)
	for i, f := range fairs(400, api.MaxEntries) {
		order := which(len(f.Entries))
		for n := len(order) - 1; n > 0; n-- {
			m := d.roll(n + 1)
			order[n], order[m] = order[m], order[n]
		}
		other := keep(f, order...)
		n := must[int](t)(mark.Count(f))
		if m := must[int](t)(mark.Count(other)); m != n {
			t.Errorf("fair %d: %d ways, in the order %v %d", i, n, order, m)
		}
		if n == 0 {
			continue
		}
		for x := range order {
			for y := range order {
				v := must[int](t)(mark.Same(f, order[x], order[y]))
				if u := must[int](t)(mark.Same(other, x, y)); u != v {
					t.Errorf("fair %d: Same is %d, in the order %v %d", i, v, order, u)
				}
				if x < y && order[x] > order[y] && f.Entries[order[x]].Hour == f.Entries[order[y]].Hour {
					met["the same hour"]++
				}
			}
		}
	}
	met.need(t, "the same hour")
}
