package owner_test

import (
	"math"
	"slices"
	"strconv"
	"strings"
	"testing"

	"wainscot/api"
	"wainscot/owner"
	"wainscot/tree"
)

// The tests hold the package against the chapter said a second time, in another way: the model knows no owner of an object, but has a list for each group with the objects that it owns. The properties P14.4 and P14.5 are held against what the owners themselves tell, without the model.

// object is one: its slab, and which one of it.
type object struct{ slab, i int }

// model is owners of the tests.
type model struct {
	slabs, objects int
	lists          [17][]object // of group 1 at 1
}

// exists tells whether there is an object.
func (m *model) exists(x object) bool {
	return slices.Contains(upTo(0, m.slabs-1), x.slab) && slices.Contains(upTo(0, m.objects-1), x.i)
}

// of is what Of has to return: the group in whose list an object is.
func (m *model) of(x object) int {
	return max(0, slices.IndexFunc(m.lists[:], func(l []object) bool { return slices.Contains(l, x) }))
}

// faults are all errors of a call on an object, in the order in which they come, and OK. Clear has no group that may be wrong.
func (m *model) faults(x object, group int, hasOwner bool) []api.Errno {
	var l []api.Errno
	if !m.exists(x) {
		l = append(l, api.ErrRange)
	}
	if !slices.Contains(upTo(1, 16), group) {
		l = append(l, api.ErrGroup)
	}
	if (m.of(x) > 0) != hasOwner {
		l = append(l, api.ErrOwner)
	}
	return append(l, api.OK)
}

// set is what Set has to do.
func (m *model) set(x object, group int) api.Errno {
	e := m.faults(x, group, false)[0]
	if e == api.OK {
		m.lists[group] = append(m.lists[group], x)
	}
	return e
}

// clear is what Clear has to do.
func (m *model) clear(x object) (int, api.Errno) {
	if e := m.faults(x, 1, true)[0]; e != api.OK {
		return 0, e
	}
	group := m.of(x)
	m.lists[group] = slices.DeleteFunc(m.lists[group], func(y object) bool { return x == y })
	return group, api.OK
}

// move is what Move has to do.
func (m *model) move(from, to int) (int, api.Errno) {
	groups := upTo(1, 16)
	if !slices.Contains(groups, from) || !slices.Contains(groups, to) {
		return 0, api.ErrGroup
	}
	if from == to {
		return 0, api.OK
	}
	l := m.lists[from]
	m.lists[from], m.lists[to] = nil, slices.Concat(m.lists[to], l)
	return len(l), api.OK
}

// count is what Count has to return.
func (m *model) count(group int) int {
	if !slices.Contains(upTo(1, 16), group) {
		return 0
	}
	return len(m.lists[group])
}

// stands is how all owners stand: of each object of each slab, how many objects each group owns, and of each slab whether it is empty.
type stands struct {
	of, counts []int
	empty      []bool
}

// equal tells whether owners stand the same way.
func (s stands) equal(other stands) bool {
	return slices.Equal(s.of, other.of) && slices.Equal(s.counts, other.counts) && slices.Equal(s.empty, other.empty)
}

// stands is how the model stands.
func (m *model) stands() stands {
	is := stands{make([]int, m.slabs*m.objects), make([]int, 16), slices.Repeat([]bool{true}, m.slabs)}
	for group, l := range m.lists {
		for _, x := range l {
			is.of[x.slab*m.objects+x.i] = group
			is.empty[x.slab] = false
			is.counts[group-1]++
		}
	}
	return is
}

// tells is how owners stand, by what they themselves tell.
func tells(o *owner.Owner, slabs, objects int) stands {
	var is stands
	for slab := range slabs {
		for i := range objects {
			is.of = append(is.of, o.Of(slab, i))
		}
		is.empty = append(is.empty, o.Empty(slab))
	}
	for group := 1; group <= 16; group++ {
		is.counts = append(is.counts, o.Count(group))
	}
	return is
}

// pair is owners and their model, which are always called together.
type pair struct {
	t    *testing.T
	o    *owner.Owner
	m    *model
	done []string // the calls so far
	many int      // objects that were set and not cleared
}

// made is owners of nothing.
func made(t *testing.T, slabs, objects int) *owner.Owner {
	t.Helper()
	o, e := owner.New(slabs, objects)
	if o == nil || e != api.OK {
		t.Fatalf("New(%d, %d): %v, %d", slabs, objects, o, e)
	}
	return o
}

// newPair is owners of nothing, and their model.
func newPair(t *testing.T, slabs, objects int) *pair {
	t.Helper()
	return &pair{t: t, o: made(t, slabs, objects), m: &model{slabs: slabs, objects: objects}}
}

// all is the calls so far, or the last ones of many, for what is told of a fault.
func (p *pair) all() string {
	return "of " + strconv.Itoa(p.m.slabs) + " with " + strconv.Itoa(p.m.objects) + ", after " + strings.Join(p.done[max(0, len(p.done)-40):], " ")
}

// note writes a call down.
func (p *pair) note(name string, args ...int) {
	for _, arg := range args {
		name += "," + strconv.Itoa(arg)
	}
	p.done = append(p.done, name)
}

// set sets an owner, and holds the result against the model.
func (p *pair) set(slab, i, group int) api.Errno {
	p.t.Helper()
	p.note("set", slab, i, group)
	e := p.o.Set(slab, i, group)
	if want := p.m.set(object{slab, i}, group); e != want {
		p.t.Fatalf("%d, not %d: %s", e, want, p.all())
	}
	if e == api.OK {
		p.many++
	}
	return e
}

// clear clears an owner, and holds the results against the model.
func (p *pair) clear(slab, i int) (int, api.Errno) {
	p.t.Helper()
	p.note("clear", slab, i)
	group, e := p.o.Clear(slab, i)
	if wantGroup, wantE := p.m.clear(object{slab, i}); group != wantGroup || e != wantE {
		p.t.Fatalf("%d, %d, not %d, %d: %s", group, e, wantGroup, wantE, p.all())
	}
	if e == api.OK {
		p.many--
	}
	return group, e
}

// move moves what a group owns, and holds the results, and P14.5, against the model and against what the owners tell.
func (p *pair) move(from, to int) (int, api.Errno) {
	p.t.Helper()
	p.note("move", from, to)
	had, sum := p.o.Count(from), p.o.Count(from)+p.o.Count(to)
	moved, e := p.o.Move(from, to)
	if wantMoved, wantE := p.m.move(from, to); moved != wantMoved || e != wantE {
		p.t.Fatalf("%d, %d, not %d, %d: %s", moved, e, wantMoved, wantE, p.all())
	}
	if p.o.Count(from)+p.o.Count(to) != sum {
		p.t.Fatalf("counts were %d together, are %d and %d: %s", sum, p.o.Count(from), p.o.Count(to), p.all())
	}
	if e == api.OK && from != to && (p.o.Count(from) != 0 || moved != had) {
		p.t.Fatalf("%d is left of %d: %s", p.o.Count(from), had, p.all())
	}
	return moved, e
}

// mustStand holds everything that the owners tell against the model, and against P14.4.
func (p *pair) mustStand() {
	p.t.Helper()
	got, want := tells(p.o, p.m.slabs, p.m.objects), p.m.stands()
	if !got.equal(want) {
		p.t.Fatalf("%v, not %v: %s", got, want, p.all())
	}
	p.mustSum(got)
	for _, group := range []int{-1, 0, 17, 18} {
		if n := p.o.Count(group); n != 0 {
			p.t.Fatalf("Count(%d): %d: %s", group, n, p.all())
		}
	}
	for _, slab := range []int{-1, p.m.slabs} {
		if p.o.Empty(slab) {
			p.t.Fatalf("Empty(%d): %s", slab, p.all())
		}
	}
}

// mustSum holds counts against P14.4: of all objects that were set and not cleared, and of those that Of tells of each group.
func (p *pair) mustSum(got stands) {
	p.t.Helper()
	counts, sum := make([]int, 17), 0
	for _, group := range got.of {
		counts[group]++
	}
	for _, n := range got.counts {
		sum += n
	}
	if sum != p.many || !slices.Equal(counts[1:], got.counts) {
		p.t.Fatalf("%d objects have an owner, by Of %v, by Count %v: %s", p.many, counts, got.counts, p.all())
	}
}

// now is how the owners stand.
func (p *pair) now() stands { return tells(p.o, p.m.slabs, p.m.objects) }

// isAs holds the owners against what they were.
func (p *pair) isAs(before stands) {
	p.t.Helper()
	if got := p.now(); !got.equal(before) {
		p.t.Fatalf("%v, not %v: %s", got, before, p.all())
	}
	p.mustStand()
}

// sets sets an owner that has to be set, and leaves the owners of all other objects as they are.
func (p *pair) sets(slab, i, group int) {
	p.t.Helper()
	want := p.now()
	if e := p.set(slab, i, group); e != api.OK {
		p.t.Fatalf("%d: %s", e, p.all())
	}
	want.of[slab*p.m.objects+i] = group
	want.counts[group-1]++
	want.empty[slab] = false
	p.isAs(want)
}

// clears clears an owner that has to be so, and leaves the owners of all other objects as they are.
func (p *pair) clears(slab, i, group int) {
	p.t.Helper()
	want := p.now()
	if got, e := p.clear(slab, i); got != group || e != api.OK {
		p.t.Fatalf("%d, %d, not %d: %s", got, e, group, p.all())
	}
	from, n := slab*p.m.objects, p.m.objects
	want.of[from+i] = 0
	want.counts[group-1]--
	want.empty[slab] = slices.Max(want.of[from:from+n]) == 0
	p.isAs(want)
}

// moves moves what a group owns, of which the test says itself how much it is; no object of other groups changes.
func (p *pair) moves(from, to, moved int) {
	p.t.Helper()
	want := p.now()
	if got, e := p.move(from, to); got != moved || e != api.OK {
		p.t.Fatalf("%d, %d, not %d: %s", got, e, moved, p.all())
	}
	for at, group := range want.of {
		if group == from {
			want.of[at] = to
		}
	}
	want.counts[from-1] -= moved
	want.counts[to-1] += moved
	p.isAs(want)
}

// refusesSet holds a Set against its error, with which nothing changes.
func (p *pair) refusesSet(slab, i, group int, want api.Errno) {
	p.t.Helper()
	before := p.now()
	if e := p.set(slab, i, group); e != want {
		p.t.Fatalf("%d, not %d: %s", e, want, p.all())
	}
	p.isAs(before)
}

// refusesClear holds a Clear against its error, with which nothing is returned, and nothing changes.
func (p *pair) refusesClear(slab, i int, want api.Errno) {
	p.t.Helper()
	before := p.now()
	if group, e := p.clear(slab, i); group != 0 || e != want {
		p.t.Fatalf("%d, %d, not %d: %s", group, e, want, p.all())
	}
	p.isAs(before)
}

// refusesMove holds a Move against ErrGroup, with which nothing is returned, and nothing changes.
func (p *pair) refusesMove(from, to int) {
	p.t.Helper()
	before := p.now()
	if moved, e := p.move(from, to); moved != 0 || e != api.ErrGroup {
		p.t.Fatalf("%d, %d: %s", moved, e, p.all())
	}
	p.isAs(before)
}

// tellsOf holds Of against what the test says itself.
func (p *pair) tellsOf(slab, i, want int) {
	p.t.Helper()
	if got := p.o.Of(slab, i); got != want {
		p.t.Fatalf("Of(%d, %d): %d, not %d: %s", slab, i, got, want, p.all())
	}
}

// counts holds Count against what the test says itself.
func (p *pair) counts(group, want int) {
	p.t.Helper()
	if got := p.o.Count(group); got != want {
		p.t.Fatalf("Count(%d): %d, not %d: %s", group, got, want, p.all())
	}
}

// empty holds Empty against what the test says itself.
func (p *pair) empty(slab int, want bool) {
	p.t.Helper()
	if got := p.o.Empty(slab); got != want {
		p.t.Fatalf("Empty(%d): %v, not %v: %s", slab, got, want, p.all())
	}
}

// in is owners that stand so: a line of owners for each slab, 0 for none.
func in(t *testing.T, slabs ...[]int) *pair {
	t.Helper()
	p := newPair(t, len(slabs), len(slabs[0]))
	for slab, l := range slabs {
		for i, group := range l {
			if group != 0 {
				p.set(slab, i, group)
			}
		}
	}
	p.mustStand()
	return p
}

// fill gives each object of all slabs to a group.
func (p *pair) fill(group int) {
	p.t.Helper()
	for slab := range p.m.slabs {
		for i := range p.m.objects {
			if e := p.o.Set(slab, i, group); e != api.OK {
				p.t.Fatalf("Set(%d, %d, %d): %d", slab, i, group, e)
			}
			p.m.lists[group] = append(p.m.lists[group], object{slab, i})
			p.many++
		}
	}
	p.done = append(p.done, "fill,"+strconv.Itoa(group))
	p.mustStand()
}

// outside are numbers that none of so many slabs, or of so many objects, has.
func outside(many int) []int {
	return []int{math.MinInt, math.MinInt + 1, math.MinInt32, -256, -many, -2, -1, many, many + 1, many + 16, 2 * 256, 1 << 32, 1<<32 + 1, math.MaxInt - 1, math.MaxInt}
}

// noGroups are numbers of no group.
func noGroups() []int {
	return []int{math.MinInt, math.MinInt + 1, math.MinInt32, -16, -2, -1, 0, 17, 18, 33, 256 + 1, 1 << 32, 1<<32 + 1, math.MaxInt - 1, math.MaxInt}
}

// upTo are the numbers from one to another one.
func upTo(from, to int) []int {
	var l []int
	for i := from; i <= to; i++ {
		l = append(l, i)
	}
	return l
}

// noise gives numbers without a pattern, the same ones each time.
type noise uint64

func (n *noise) next(below int) int {
	*n = *n*6364136223846793005 + 1442695040888963407
	return int(uint64(*n)>>33) % below
}

// sizes are numbers of slabs and of objects: the smallest ones, several, and the greatest ones.
func sizes() [][2]int {
	return [][2]int{{1, 1}, {1, 2}, {2, 1}, {3, 4}, {5, 16}, {20, 3}, {1, 16}, {256, 1}, {256, 16}}
}

func TestNew(t *testing.T) { // P14.1
	good := 0
	slabs := []int{math.MinInt, math.MinInt + 1, math.MinInt32, -256, -2, -1, 0, 1, 2, 3, 8, 31, 32, 33, 128, 254, 255, 256, 257, 258, 512, 4096, 65536, 65536 + 1, math.MaxInt32, 1 << 32, 1<<32 + 1, math.MaxInt - 1, math.MaxInt}
	objects := []int{math.MinInt, math.MinInt + 1, math.MinInt32, -16, -2, -1, 0, 1, 2, 3, 8, 15, 16, 17, 18, 32, 256, 256 + 1, 65536 + 1, math.MaxInt32, 1 << 32, 1<<32 + 1, math.MaxInt - 1, math.MaxInt}
	for _, many := range slabs {
		for _, each := range objects {
			o, e := owner.New(many, each)
			if many >= 1 && many <= 256 && each >= 1 && each <= 16 {
				good++
				if o == nil || e != api.OK {
					t.Errorf("New(%d, %d): %v, %d", many, each, o, e)
				}
			} else if o != nil || e != api.ErrArg {
				t.Errorf("New(%d, %d): %v, %d, not nothing, ErrArg", many, each, o, e)
			}
		}
	}
	if good != 11*6 {
		t.Error("pairs that are good:", good)
	}
}

func TestEveryNew(t *testing.T) { // P14.1: of each size, with an object at each corner, and none behind it
	for slabs := -1; slabs <= 258; slabs++ {
		for objects := -1; objects <= 18; objects++ {
			o, e := owner.New(slabs, objects)
			if slabs < 1 || slabs > 256 || objects < 1 || objects > 16 {
				if o != nil || e != api.ErrArg {
					t.Fatalf("New(%d, %d): %v, %d", slabs, objects, o, e)
				}
				continue
			}
			if o.Set(slabs-1, objects-1, 1) != api.OK || o.Set(slabs, 0, 1) != api.ErrRange || o.Set(0, objects, 1) != api.ErrRange || o.Count(1) != 1 {
				t.Fatalf("New(%d, %d): not of that size", slabs, objects)
			}
		}
	}
}

func TestNewOwnsNothing(t *testing.T) { // P14.1
	for _, size := range sizes() {
		p := newPair(t, size[0], size[1])
		p.mustStand()
		for slab := range size[0] {
			p.empty(slab, true)
			for i := range size[1] {
				p.tellsOf(slab, i, 0)
				if group, e := p.clear(slab, i); group != 0 || e != api.ErrOwner {
					t.Fatal(group, e, p.all())
				}
			}
		}
		for from := 1; from <= 16; from++ {
			p.counts(from, 0)
			if moved, e := p.move(from, 17-from); moved != 0 || e != api.OK {
				t.Fatal(moved, e, p.all())
			}
		}
		p.mustStand()
	}
}

func TestNothing(t *testing.T) { // nil and zero Owner
	numbers := slices.Concat(outside(256), noGroups(), upTo(0, 18), []int{255})
	for _, o := range []*owner.Owner{nil, {}, new(owner.Owner)} {
		for range 2 {
			for _, a := range numbers {
				for _, b := range numbers {
					for _, c := range numbers {
						if e := o.Set(a, b, c); e != api.ErrNil { // that nothing is there comes first
							t.Fatalf("Set(%d, %d, %d): %d", a, b, c, e)
						}
					}
					if group, e := o.Clear(a, b); group != 0 || e != api.ErrNil {
						t.Fatalf("Clear(%d, %d): %d, %d", a, b, group, e)
					}
					if got := o.Of(a, b); got != 0 {
						t.Fatalf("Of(%d, %d): %d", a, b, got)
					}
					if moved, e := o.Move(a, b); moved != 0 || e != api.ErrNil {
						t.Fatalf("Move(%d, %d): %d, %d", a, b, moved, e)
					}
				}
				if got := o.Count(a); got != 0 {
					t.Fatalf("Count(%d): %d", a, got)
				}
				if o.Empty(a) {
					t.Fatalf("Empty(%d): true", a)
				}
			}
		}
	}
}

// mustNotBe holds an object that does not exist against P14.2: it gets no owner, whatever the group, and has none.
func (p *pair) mustNotBe(slab, i int) {
	p.t.Helper()
	for _, group := range []int{1, 2, 16, 0, 17} { // that it does not exist comes ahead of the group
		if e := p.set(slab, i, group); e != api.ErrRange {
			p.t.Fatalf("%d: %s", e, p.all())
		}
	}
	if group, e := p.clear(slab, i); group != 0 || e != api.ErrRange {
		p.t.Fatalf("%d, %d: %s", group, e, p.all())
	}
	p.tellsOf(slab, i, 0)
}

func TestNoObject(t *testing.T) { // P14.2, of owners of nothing, of one object, and of everything
	for _, size := range sizes() {
		slabs, objects := size[0], size[1]
		one := newPair(t, slabs, objects)
		one.set(slabs-1, objects-1, 2)
		full := newPair(t, slabs, objects)
		full.fill(2)
		for _, p := range []*pair{newPair(t, slabs, objects), one, full} {
			before := p.now()
			for _, slab := range outside(slabs) {
				for _, i := range append(outside(objects), 0, objects-1) {
					p.mustNotBe(slab, i)
				}
				p.empty(slab, false)
			}
			for _, slab := range []int{0, slabs / 2, slabs - 1} {
				for _, i := range outside(objects) {
					p.mustNotBe(slab, i)
				}
			}
			p.isAs(before)
		}
	}
}

func TestFirstAndLast(t *testing.T) { // P14.2: of the objects at the edges, each one for itself
	for _, size := range sizes() {
		slabs, objects := size[0], size[1]
		for _, slab := range []int{0, slabs / 2, slabs - 1} {
			for _, i := range []int{0, objects / 2, objects - 1} {
				p := newPair(t, slabs, objects)
				p.sets(slab, i, 16)
				p.tellsOf(slab, i, 16)
				p.refusesSet(slab, i, 1, api.ErrOwner)
				p.empty(slab, false)
				p.counts(16, 1)
				p.clears(slab, i, 16)
				p.tellsOf(slab, i, 0)
				p.empty(slab, true)
				p.counts(16, 0)
				p.refusesClear(slab, i, api.ErrOwner)
				p.sets(slab, i, 1)
			}
		}
	}
}

func TestEachObject(t *testing.T) { // P14.2: each one has an owner of its own, which no call on another one changes
	for _, size := range sizes()[:7] {
		slabs, objects := size[0], size[1]
		p := newPair(t, slabs, objects)
		group := func(slab, i int) int { return (slab*7+i*3)%16 + 1 }
		for slab := range slabs {
			for i := range objects {
				p.sets(slab, i, group(slab, i))
			}
		}
		for slab := range slabs {
			for i := range objects {
				p.tellsOf(slab, i, group(slab, i))
				p.refusesSet(slab, i, group(slab, i), api.ErrOwner)
				p.refusesSet(slab, i, group(slab, i)%16+1, api.ErrOwner)
			}
		}
		for i := range objects { // in another order than they were set
			for slab := slabs - 1; slab >= 0; slab-- {
				p.clears(slab, i, group(slab, i))
				p.refusesClear(slab, i, api.ErrOwner)
			}
		}
	}
}

func TestSlabAndObjectAreNotMixedUp(t *testing.T) { // P14.2: the slab is the first one
	p := newPair(t, 16, 16)
	for a := range 16 {
		for b := range a {
			p.sets(a, b, a+1)
			p.tellsOf(b, a, 0)
			p.refusesClear(b, a, api.ErrOwner)
		}
	}
	p.empty(0, true)
	for a := range 16 {
		p.counts(a+1, a)
	}
	q := newPair(t, 20, 3)
	q.sets(19, 2, 4)
	q.refusesSet(2, 19, 4, api.ErrRange)
	q.refusesClear(2, 19, api.ErrRange)
	q.tellsOf(2, 19, 0)
	q.sets(2, 1, 5) // which is no other object of a slab before it
	q.sets(1, 2, 6)
	q.tellsOf(1, 1, 0)
	q.refusesSet(0, 4, 1, api.ErrRange)
	q.tellsOf(2, -2, 0)
	q.tellsOf(0, 5, 0)
}

func TestNoGroup(t *testing.T) { // P14.2, P14.3
	for _, p := range []*pair{newPair(t, 2, 3), in(t, []int{1, 1, 1}, []int{16, 0, 2})} {
		for _, group := range noGroups() {
			for slab := range 2 {
				for i := range 3 {
					p.refusesSet(slab, i, group, api.ErrGroup) // also if it has an owner: the group comes first
				}
			}
			for _, other := range append(noGroups(), upTo(1, 16)...) {
				p.refusesMove(group, other)
				p.refusesMove(other, group)
			}
			p.refusesMove(group, group)
			p.counts(group, 0)
		}
	}
}

func TestEachGroup(t *testing.T) { // P14.2, P14.3
	for group := 1; group <= 16; group++ {
		p := newPair(t, 2, 2)
		p.sets(1, 0, group)
		p.tellsOf(1, 0, group)
		for other := -1; other <= 18; other++ {
			if other != group {
				p.counts(other, 0)
			}
			if other >= 1 && other <= 16 {
				p.refusesSet(1, 0, other, api.ErrOwner)
			}
		}
		p.counts(group, 1)
		p.sets(0, 1, group)
		p.sets(0, 0, group%16+1)
		p.counts(group, 2)
		p.clears(1, 0, group)
		p.counts(group, 1)
	}
}

func TestSetOfAnObjectWithAnOwner(t *testing.T) { // P14.2
	for had := 1; had <= 16; had++ {
		p := in(t, []int{0, had}, []int{had, 0})
		for _, group := range append(upTo(1, 16), noGroups()...) {
			want := api.ErrGroup
			if group >= 1 && group <= 16 {
				want = api.ErrOwner
			}
			p.refusesSet(0, 1, group, want)
			p.refusesSet(1, 0, group, want)
		}
		p.clears(0, 1, had)
		p.clears(1, 0, had)
	}
}

func TestSetBehindClear(t *testing.T) { // P14.2: by the same group, and by another one
	for first := 1; first <= 16; first++ {
		for second := 1; second <= 16; second++ {
			p := in(t, []int{2, first, 3}, []int{0, first, 0})
			p.clears(0, 1, first)
			p.refusesClear(0, 1, api.ErrOwner)
			p.refusesClear(0, 1, api.ErrOwner)
			p.sets(0, 1, second)
			p.refusesSet(0, 1, first, api.ErrOwner)
			p.tellsOf(1, 1, first)
			p.clears(0, 1, second)
			p.clears(1, 1, first)
			p.empty(1, true)
			p.empty(0, false)
		}
	}
}

func TestMove(t *testing.T) { // P14.3
	for _, c := range []struct {
		slabs       [][]int
		from, to, n int
		then        []int // slabs one behind the other
	}{
		{[][]int{{0}}, 1, 2, 0, []int{0}},
		{[][]int{{1}}, 1, 2, 1, []int{2}},
		{[][]int{{1}}, 2, 1, 0, []int{1}},
		{[][]int{{16}}, 16, 1, 1, []int{1}},
		{[][]int{{1}}, 1, 16, 1, []int{16}},
		{[][]int{{16}}, 1, 16, 0, []int{16}},
		{[][]int{{0, 0}, {0, 0}}, 4, 5, 0, []int{0, 0, 0, 0}},
		{[][]int{{0, 4}, {0, 0}}, 4, 5, 1, []int{0, 5, 0, 0}},
		{[][]int{{0, 4}, {5, 0}}, 4, 5, 1, []int{0, 5, 5, 0}},
		{[][]int{{0, 4}, {5, 0}}, 5, 4, 1, []int{0, 4, 4, 0}},
		{[][]int{{3, 4}, {4, 0}, {4, 6}}, 4, 5, 3, []int{3, 5, 5, 0, 5, 6}},
		{[][]int{{3, 4}, {4, 0}, {4, 6}}, 4, 6, 3, []int{3, 6, 6, 0, 6, 6}},
		{[][]int{{3, 4}, {4, 0}, {4, 6}}, 6, 3, 1, []int{3, 4, 4, 0, 4, 3}},
		{[][]int{{3, 4}, {4, 0}, {4, 6}}, 7, 4, 0, []int{3, 4, 4, 0, 4, 6}},
		{[][]int{{9, 9, 9}, {9, 9, 9}}, 9, 1, 6, []int{1, 1, 1, 1, 1, 1}},
		{[][]int{{9, 9, 9}, {9, 9, 9}}, 1, 9, 0, []int{9, 9, 9, 9, 9, 9}},
		{[][]int{{9, 9, 9}, {1, 1, 1}}, 9, 1, 3, []int{1, 1, 1, 1, 1, 1}},
	} {
		p := in(t, c.slabs...)
		p.moves(c.from, c.to, c.n)
		if got := p.now().of; !slices.Equal(got, c.then) {
			t.Errorf("%v, not %v: %s", got, c.then, p.all())
		}
		p.counts(c.from, 0)
		p.moves(c.from, c.to, 0) // nothing is left to be moved
	}
}

func TestMoveBetweenAllGroups(t *testing.T) { // P14.3, P14.5: each group owns as many objects as its number
	for from := 1; from <= 16; from++ {
		for to := 1; to <= 16; to++ {
			p := newPair(t, 12, 12)
			at := 0
			for group := 1; group <= 16; group++ {
				for range group {
					p.set(at/12, at%12, group)
					at++
				}
			}
			if from == to {
				p.moves(from, to, 0)
				p.counts(to, to)
				continue
			}
			p.moves(from, to, from)
			p.counts(from, 0)
			p.counts(to, from+to)
		}
	}
}

func TestMoveToTheSameGroup(t *testing.T) { // P14.3: nothing is moved, and nothing is lost
	for group := 1; group <= 16; group++ {
		other := group%16 + 1
		for _, slabs := range [][][]int{{{0, 0}}, {{group, 0}}, {{group, other}}, {{group, other}, {group, group}, {0, 0}}, {{other, other}}} {
			p := in(t, slabs...)
			had := p.o.Count(group)
			p.moves(group, group, 0)
			p.counts(group, had)
		}
	}
}

func TestMoveThereAndBack(t *testing.T) { // P14.3
	p := in(t, []int{2, 0, 5}, []int{5, 5, 0}, []int{0, 0, 0})
	before := p.now()
	p.moves(5, 7, 3)
	p.moves(7, 5, 3)
	p.isAs(before)
	p.moves(5, 2, 3) // to one that owns something: what was its, and what became so, is one
	p.moves(2, 5, 4)
	p.counts(5, 4)
	p.tellsOf(0, 0, 5)
	p.moves(5, 5, 0)
	p.moves(5, 16, 4)
	p.moves(16, 1, 4)
	p.sets(2, 2, 16) // which owns again
	p.moves(16, 1, 1)
	p.clears(2, 2, 1)
	p.clears(0, 0, 1)
	p.moves(1, 2, 3)
}

func TestMoveInARing(t *testing.T) { // P14.3: all that there is goes through all groups
	for _, size := range sizes() {
		p := newPair(t, size[0], size[1])
		p.fill(1)
		for from := 1; from <= 16; from++ {
			to := from%16 + 1
			p.moves(from, to, size[0]*size[1])
			p.counts(from, 0)
			p.counts(to, size[0]*size[1])
		}
	}
}

func TestCount(t *testing.T) { // P14.3
	p := in(t, []int{1, 2, 2, 16}, []int{0, 0, 0, 0}, []int{2, 16, 0, 3})
	for group, want := range []int{0, 1, 3, 1, 0, 0, 0, 0, 0, 0, 0, 0, 0, 0, 0, 0, 2, 0, 0} {
		p.counts(group, want)
	}
	for _, group := range noGroups() {
		p.counts(group, 0) // not those that nobody owns, either
	}
	p.clears(0, 1, 2)
	p.counts(2, 2)
	p.counts(0, 0)
	p.sets(1, 1, 3)
	p.counts(3, 2)
	p.moves(2, 3, 2)
	p.counts(3, 4)
	p.counts(2, 0)
}

func TestCountOfAll(t *testing.T) { // P14.3, of one group that owns everything
	for _, size := range sizes() {
		for _, group := range []int{1, 9, 16} {
			p := newPair(t, size[0], size[1])
			p.fill(group)
			p.counts(group, size[0]*size[1])
			p.counts(group%16+1, 0)
			p.counts(0, 0)
		}
	}
}

func TestEmpty(t *testing.T) { // P14.3
	for _, size := range sizes() {
		slabs, objects := size[0], size[1]
		for _, slab := range []int{0, slabs / 2, slabs - 1} {
			p := newPair(t, slabs, objects)
			for i := range objects {
				p.sets(slab, i, 1+i)
			}
			p.moves(1, 16, 1) // it has other owners then, but it has some
			for i := range objects {
				p.empty(slab, false)
				group := 1 + i
				if i == 0 || i == 15 {
					group = 16
				}
				p.clears(slab, i, group)
			}
			p.empty(slab, true) // the last owner was cleared
			p.sets(slab, objects-1, 3)
			p.empty(slab, false)
			p.moves(3, 4, 1)
			p.empty(slab, false)
			p.clears(slab, objects-1, 4)
			p.empty(slab, true)
		}
	}
}

func TestEmptyOfEachObject(t *testing.T) { // P14.3: one owner is enough, whichever object it is
	for objects := 1; objects <= 16; objects++ {
		p := newPair(t, 3, objects)
		for slab := range 3 {
			for i := range objects {
				p.sets(slab, i, 5)
				for other := -1; other <= 3; other++ {
					p.empty(other, other >= 0 && other < 3 && other != slab)
				}
				p.clears(slab, i, 5)
			}
		}
	}
}

func TestEmptyOfNoSlab(t *testing.T) { // P14.3
	for _, size := range sizes() {
		p := newPair(t, size[0], size[1])
		for _, slab := range outside(size[0]) {
			p.empty(slab, false)
		}
		p.fill(3)
		for _, slab := range append(outside(size[0]), 0, size[0]-1) {
			p.empty(slab, false)
		}
	}
}

func TestOrderOfErrors(t *testing.T) { // P14.2: the object, then the group, then the owner that it has or has not
	objects := append(outside(2), 0, 1)
	groups := append(noGroups(), 1, 2, 16)
	for _, slabs := range [][][]int{{{0, 0}, {0, 0}}, {{1, 2}, {16, 1}}, {{0, 2}, {2, 0}}} {
		p := in(t, slabs...)
		for _, slab := range objects {
			for _, i := range objects {
				isThere := slab >= 0 && slab < 2 && i >= 0 && i < 2
				hasOwner := isThere && slabs[slab][i] != 0
				for _, group := range groups {
					isGroup := group >= 1 && group <= 16
					switch {
					case !isThere:
						p.refusesSet(slab, i, group, api.ErrRange)
					case !isGroup:
						p.refusesSet(slab, i, group, api.ErrGroup)
					case hasOwner:
						p.refusesSet(slab, i, group, api.ErrOwner)
					}
				}
				switch {
				case !isThere:
					p.refusesClear(slab, i, api.ErrRange)
				case !hasOwner:
					p.refusesClear(slab, i, api.ErrOwner)
				}
			}
		}
	}
}

// of is owners that stand as a number says: one digit, from 0 to 3, for each object of two slabs with two objects.
func of(t *testing.T, number int) *pair {
	t.Helper()
	var l [4]int
	for at := range l {
		l[at] = []int{0, 1, 2, 16}[number>>(2*at)&3]
	}
	return in(t, l[:2], l[2:])
}

func TestEveryCallInEverySmallState(t *testing.T) { // P14.2 to P14.5, R1
	for number := range 256 {
		for slab := -1; slab <= 2; slab++ {
			for i := -1; i <= 2; i++ {
				for _, group := range []int{0, 1, 2, 3, 16, 17} {
					p := of(t, number)
					before := p.now()
					if e := p.set(slab, i, group); e != api.OK {
						p.isAs(before)
					}
					p.mustStand()
				}
				p := of(t, number)
				before := p.now()
				if group, e := p.clear(slab, i); e != api.OK {
					p.isAs(before)
				} else {
					p.sets(slab, i, group) // nothing is lost of what was there
					p.isAs(before)
				}
				p.mustStand()
			}
		}
		for _, from := range []int{0, 1, 2, 3, 16, 17} {
			for _, to := range []int{0, 1, 2, 3, 16, 17} {
				p := of(t, number)
				before := p.now()
				if moved, e := p.move(from, to); e != api.OK || moved == 0 {
					p.isAs(before)
				}
				p.mustStand()
			}
		}
	}
}

// step makes one call without a pattern, of which some have errors, and tells what sort it was.
func (p *pair) step(z *noise, groups int) string {
	p.t.Helper()
	slab, i := z.next(p.m.slabs), z.next(p.m.objects)
	if z.next(12) == 0 {
		slab = []int{-1, p.m.slabs}[z.next(2)]
	}
	if z.next(12) == 0 {
		i = []int{-1, p.m.objects}[z.next(2)]
	}
	group := 1 + z.next(groups)
	if z.next(12) == 0 {
		group = []int{0, 17, -1}[z.next(3)]
	}
	switch z.next(8) {
	case 0, 1, 2, 3:
		return "set " + strconv.Itoa(int(p.set(slab, i, group)))
	case 4, 5, 6:
		_, e := p.clear(slab, i)
		return "clear " + strconv.Itoa(int(e))
	}
	moved, e := p.move(group, 1+z.next(groups))
	return "move " + strconv.Itoa(int(e)) + " " + strconv.FormatBool(moved > 1)
}

func TestManyCalls(t *testing.T) { // P14.2 to P14.5, against the model
	count := map[string]int{}
	for seed := range 120 {
		z := noise(seed)
		p := newPair(t, 1+z.next(6), 1+z.next(16))
		groups := 1 + z.next(16)
		for range 300 {
			count[p.step(&z, groups)]++
			p.mustStand()
		}
	}
	for _, sort := range []string{"set 0", "set 9", "set 110", "set 140", "clear 0", "clear 9", "clear 140", "move 0 true", "move 0 false", "move 110 false"} {
		if count[sort] < 300 {
			t.Error("too few of some sort:", count)
		}
	}
}

func TestManyCallsOfTheGreatest(t *testing.T) { // P14.2 to P14.5, of 256 slabs with 16 objects
	z := noise(4)
	p := newPair(t, 256, 16)
	for range 40 {
		for range 60 {
			p.step(&z, 16)
		}
		p.mustStand()
	}
	if p.many < 100 {
		t.Error("too few objects have an owner:", p.many)
	}
}

// ledger is for each object what was last said of it, held without the model: who set it, or 0.
type ledger map[object]int

func TestSumOfCounts(t *testing.T) { // P14.4: of each object that was set and not cleared exactly one group is told
	for seed := range 40 {
		z := noise(1000 + seed)
		slabs, objects := 1+z.next(5), 1+z.next(16)
		o, l := made(t, slabs, objects), ledger{}
		for range 400 {
			x, group := object{z.next(slabs+1) - z.next(2), z.next(objects+1) - z.next(2)}, z.next(18)
			switch z.next(5) {
			case 0, 1:
				if o.Set(x.slab, x.i, group) == api.OK {
					if l[x] != 0 {
						t.Fatal(x, "was set twice")
					}
					l[x] = group
				}
			case 2, 3:
				if _, e := o.Clear(x.slab, x.i); e == api.OK {
					if l[x] == 0 {
						t.Fatal(x, "was cleared twice")
					}
					delete(l, x)
				}
			default:
				o.Move(group, 1+z.next(16))
			}
			l.mustAgree(t, o, slabs, objects)
		}
	}
}

// mustAgree holds owners against what was set and not cleared: these objects have an owner, no other ones have, and all Counts are as many.
func (l ledger) mustAgree(t *testing.T, o *owner.Owner, slabs, objects int) {
	t.Helper()
	sum := 0
	for group := -2; group <= 20; group++ {
		sum += o.Count(group)
	}
	if sum != len(l) {
		t.Fatalf("%d objects were set and not cleared, all Counts are %d", len(l), sum)
	}
	for slab := -1; slab <= slabs; slab++ {
		for i := -1; i <= objects; i++ {
			got := o.Of(slab, i)
			if isSet := l[object{slab, i}] != 0; isSet != (got >= 1 && got <= 16) || !isSet && got != 0 {
				t.Fatalf("Of(%d, %d): %d, was set: %v", slab, i, got, isSet)
			}
		}
	}
}

func TestMoveKeepsTheSum(t *testing.T) { // P14.5, by what the owners themselves tell
	z := noise(11)
	moves, all := 0, 0
	for range 300 {
		slabs, objects := 1+z.next(20), 1+z.next(16)
		o := made(t, slabs, objects)
		for range z.next(200) {
			o.Set(z.next(slabs), z.next(objects), 1+z.next(4))
		}
		for range 10 {
			from, to := 1+z.next(5), 1+z.next(5)
			had, gets, others := o.Count(from), o.Count(to), o.Count(1)+o.Count(2)+o.Count(3)+o.Count(4)+o.Count(5)
			moved, e := o.Move(from, to)
			if e != api.OK || o.Count(1)+o.Count(2)+o.Count(3)+o.Count(4)+o.Count(5) != others {
				t.Fatal(from, to, moved, e)
			}
			if from == to {
				if moved != 0 || o.Count(to) != gets {
					t.Fatal(from, moved, gets, o.Count(to))
				}
				continue
			}
			if moved != had || o.Count(from) != 0 || o.Count(to) != had+gets {
				t.Fatal(from, to, moved, had, gets, o.Count(from), o.Count(to))
			}
			moves++
			all += moved
		}
	}
	if moves < 1000 || all < 5000 {
		t.Error("too few were moved:", moves, all)
	}
}

func TestOwnersShareNothing(t *testing.T) { // R2: each is held against a model of its own
	z := noise(5)
	pairs := []*pair{newPair(t, 3, 4), newPair(t, 3, 4), newPair(t, 5, 16)}
	for range 1500 {
		pairs[z.next(3)].step(&z, 4)
		for _, p := range pairs {
			p.mustStand()
		}
	}
	newPair(t, 3, 4).mustStand() // nor does a new one have anything of them
}

func TestSameAnswersEachTime(t *testing.T) { // R2: the same calls tell the same, whatever is asked in between
	for seed := range 20 {
		var told [3]string
		for time := range told {
			z, y := noise(100+seed), noise(seed*time) // of y hangs only what is asked
			p := newPair(t, 4, 8)
			for range 300 {
				for range time {
					p.o.Of(y.next(4), y.next(8))
					p.o.Count(y.next(17))
					p.o.Empty(y.next(4))
				}
				told[time] += p.step(&z, 5) + " "
				told[time] += strconv.Itoa(p.o.Of(z.next(4), z.next(8))) + strconv.Itoa(p.o.Count(z.next(6))) + strconv.FormatBool(p.o.Empty(z.next(4))) + " "
			}
			for _, group := range p.now().of {
				told[time] += strconv.Itoa(group)
			}
		}
		if told[1] != told[0] || told[2] != told[0] {
			t.Fatal(told)
		}
	}
}

func TestAskingChangesNothing(t *testing.T) { // P14.2, P14.3
	p := in(t, []int{1, 0, 2}, []int{0, 0, 0})
	before := p.now()
	for a := -1; a <= 17; a++ {
		for b := -1; b <= 17; b++ {
			p.o.Of(a, b)
		}
		p.o.Count(a)
		p.o.Empty(a)
	}
	p.isAs(before)
	p.sets(1, 1, 3) // what was asked for has no owner
	p.sets(0, 1, 3)
}

func TestHeirsOwnWhatGroupsLeave(t *testing.T) { // P14.3: a group that is taken offline leaves what it owns to its heir
	tr, z := tree.New(), noise(9)
	for _, parent := range []int{1, 2, 3, 1, 5} {
		if _, e := tr.Add(parent); e != api.OK {
			t.Fatal(e)
		}
	}
	o := made(t, 6, 16)
	out := 0
	for range 80 {
		if o.Set(z.next(6), z.next(16), 1+z.next(6)) == api.OK {
			out++
		}
	}
	for _, group := range []int{3, 2, 6, 4, 5} {
		if e := tr.Offline(group); e != api.OK {
			t.Fatal(e)
		}
		if _, e := o.Move(group, tr.Heir(group)); e != api.OK {
			t.Fatal(e)
		}
		sum := 0
		for at := 1; at <= 6; at++ {
			if !tr.Online(at) && o.Count(at) != 0 {
				t.Fatalf("group %d is offline, and owns %d", at, o.Count(at))
			}
			sum += o.Count(at)
		}
		if sum != out {
			t.Fatalf("%d objects have an owner, not %d", sum, out)
		}
	}
	if out < 40 || o.Count(1) != out {
		t.Error(out, o.Count(1))
	}
}

func TestExamples(t *testing.T) { // the chapter's
	p := newPair(t, 2, 4)
	p.sets(1, 3, 5)
	p.refusesSet(1, 3, 6, api.ErrOwner)
	p.tellsOf(1, 3, 5)
	p.refusesSet(2, 0, 1, api.ErrRange)
	p.sets(0, 0, 5)
	p.moves(5, 2, 2)
	p.counts(2, 2)
	p.clears(1, 3, 2)
	p.refusesClear(1, 3, api.ErrOwner)
	p.empty(1, true)
}
