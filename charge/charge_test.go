package charge_test

import (
	"math"
	"slices"
	"strconv"
	"strings"
	"testing"

	"wainscot/api"
	"wainscot/charge"
	"wainscot/tree"
)

// The tests hold the package against the chapter said a second time, in another way: the model keeps a book of all that was charged and taken back, and adds it up each time that it is asked; of a path it looks at all groups before it charges the first one, so that it has nothing to undo. The properties P12.6 and P12.7 are held against what the counters themselves tell, without the model.

// most is MaxNumber, and the limit of each group at first.
const most = 9007199254740991

// entry is a line of a book; what was taken back is below 0.
type entry struct{ group, n int }

// model is counters of the tests.
type model struct {
	book   []entry
	limits []entry // the last one of a group holds
}

// isOne tells whether a group exists.
func isOne(group int) bool { return slices.Contains(upTo(1, 16), group) }

// used is what is charged to a group.
func (m *model) used(group int) int {
	sum := 0
	for _, line := range m.book {
		if line.group == group {
			sum += line.n
		}
	}
	return sum
}

// limit is the limit of a group, 0 if there is no such group.
func (m *model) limit(group int) int {
	for _, line := range slices.Backward(m.limits) {
		if line.group == group {
			return line.n
		}
	}
	if isOne(group) {
		return most
	}
	return 0
}

// faults are all errors of the arguments of a call for a path, in the order in which they come, and OK: those of the elements come ahead of those of the list, whatever its length is.
func faults(path []int, n int) []api.Errno {
	var ofElements, ofList []api.Errno
	if len(path) < 1 || len(path) > 8 {
		ofList = append(ofList, api.ErrArg)
	}
	seen := map[int]bool{}
	for _, group := range path {
		if !isOne(group) {
			ofElements = append(ofElements, api.ErrGroup)
		} else if seen[group] {
			ofList = append(ofList, api.ErrArg)
		}
		seen[group] = true
	}
	return slices.Concat(ofElements, ofList, numberFaults(n))
}

// numberFaults is the error of a number, and OK.
func numberFaults(n int) []api.Errno {
	if n < 0 || n > most {
		return []api.Errno{api.ErrArg, api.OK}
	}
	return []api.Errno{api.OK}
}

// try is what Try has to do.
func (m *model) try(path []int, n int) (int, api.Errno) {
	if e := faults(path, n)[0]; e != api.OK {
		return 0, e
	}
	for _, group := range path {
		if m.limit(group)-m.used(group) < n {
			return group, api.ErrCharge
		}
	}
	m.write(path, n)
	return 0, api.OK
}

// back is what Back has to do.
func (m *model) back(path []int, n int) api.Errno {
	if e := faults(path, n)[0]; e != api.OK {
		return e
	}
	if slices.ContainsFunc(path, func(group int) bool { return m.used(group)-n < 0 }) {
		return api.ErrArg
	}
	m.write(path, -n)
	return api.OK
}

// write puts a path into the book.
func (m *model) write(path []int, n int) {
	for _, group := range path {
		m.book = append(m.book, entry{group, n})
	}
}

// setLimit is what Limit has to do.
func (m *model) setLimit(group, n int) api.Errno {
	if e := faults([]int{group}, n)[0]; e != api.OK {
		return e
	}
	m.limits = append(m.limits, entry{group, n})
	return api.OK
}

// pair is counters and their model, which are always called together.
type pair struct {
	t    *testing.T
	c    *charge.Charge
	m    *model
	done []string // the calls so far
}

// newPair is new counters and their model.
func newPair(t *testing.T) *pair {
	t.Helper()
	c := charge.New()
	if c == nil {
		t.Fatal("New: nothing")
	}
	return &pair{t, c, &model{}, nil}
}

// all is the calls so far, or the last ones of many, for what is told of a fault.
func (p *pair) all() string { return "after " + strings.Join(p.done[max(0, len(p.done)-80):], " ") }

// note writes a call down, of long lists the start.
func (p *pair) note(name string, path []int, n int) {
	for _, group := range path[:min(len(path), 20)] {
		name += "," + strconv.Itoa(group)
	}
	p.done = append(p.done, name+":"+strconv.Itoa(n))
}

// holds holds an error against the one of the model.
func (p *pair) holds(got, want api.Errno) api.Errno {
	p.t.Helper()
	if got != want {
		p.t.Fatalf("%d, not %d: %s", got, want, p.all())
	}
	return got
}

// limit sets a limit, and holds the result against the model.
func (p *pair) limit(group, n int) api.Errno {
	p.t.Helper()
	p.note("limit", []int{group}, n)
	return p.holds(p.c.Limit(group, n), p.m.setLimit(group, n))
}

// up charges a group, and holds the result against the model, for which a group is a path of one.
func (p *pair) up(group, n int) api.Errno {
	p.t.Helper()
	p.note("up", []int{group}, n)
	_, want := p.m.try([]int{group}, n)
	return p.holds(p.c.Up(group, n), want)
}

// down takes back from a group, and holds the result against the model.
func (p *pair) down(group, n int) api.Errno {
	p.t.Helper()
	p.note("down", []int{group}, n)
	return p.holds(p.c.Down(group, n), p.m.back([]int{group}, n))
}

// try charges a path, and holds the results against the model, and the path against itself.
func (p *pair) try(path []int, n int) (int, api.Errno) {
	p.t.Helper()
	p.note("try", path, n)
	want, wantE := p.m.try(path, n)
	lent := lend(path)
	got, e := p.c.Try(lent, n)
	if got != want || e != wantE {
		p.t.Fatalf("Try(%v, %d): %d, %d, not %d, %d: %s", path, n, got, e, want, wantE, p.all())
	}
	p.takesBack(lent, path)
	return got, e
}

// back takes back from a path, and holds the result against the model, and the path against itself.
func (p *pair) back(path []int, n int) api.Errno {
	p.t.Helper()
	p.note("back", path, n)
	lent := lend(path)
	e := p.holds(p.c.Back(lent, n), p.m.back(path, n))
	p.takesBack(lent, path)
	return e
}

// room is what stands in the unused capacity of a path that is lent. The first one is a group, so that it shows if it is counted as one of the path.
func room() []int { return []int{16, -81, 15, 1, 2} }

// lend is a path with room behind it.
func lend(path []int) []int { return slices.Concat(path, room())[:len(path)] }

// takesBack holds a path that was lent against what it was, room and all, and spoils it, as nothing may have kept it.
func (p *pair) takesBack(lent, path []int) {
	p.t.Helper()
	all := lent[:len(path)+len(room())]
	if !slices.Equal(all, slices.Concat(path, room())) {
		p.t.Fatalf("the path is %v, not %v: %s", all, path, p.all())
	}
	for at := range all {
		all[at] = -82
	}
}

// mustStand holds everything that is told of the counters against the model.
func (p *pair) mustStand() {
	p.t.Helper()
	for group := -1; group <= 18; group++ {
		if got, want := p.c.Used(group), p.m.used(group); got != want {
			p.t.Fatalf("Used(%d): %d, not %d: %s", group, got, want, p.all())
		}
		if got, want := p.c.Most(group), p.m.limit(group); got != want {
			p.t.Fatalf("Most(%d): %d, not %d: %s", group, got, want, p.all())
		}
	}
}

// standing is how it stands with a group.
type standing struct{ used, most int }

// tells is how it stands with all groups, by what the counters themselves tell.
func (p *pair) tells() [17]standing {
	var l [17]standing
	for group := range l {
		l[group] = standing{p.c.Used(group), p.c.Most(group)}
	}
	return l
}

// is holds an error against the one that the test says itself. With an error nothing may have changed.
func (p *pair) is(call func() api.Errno, want api.Errno) {
	p.t.Helper()
	before := p.tells()
	if got := call(); got != want {
		p.t.Fatalf("%d, not %d: %s", got, want, p.all())
	}
	if want != api.OK && p.tells() != before {
		p.t.Fatalf("%v, not %v, behind an error: %s", p.tells(), before, p.all())
	}
	p.mustStand()
}

func (p *pair) limits(group, n int, want api.Errno) {
	p.t.Helper()
	p.is(func() api.Errno { return p.limit(group, n) }, want)
}

func (p *pair) ups(group, n int, want api.Errno) {
	p.t.Helper()
	p.is(func() api.Errno { return p.up(group, n) }, want)
}

func (p *pair) downs(group, n int, want api.Errno) {
	p.t.Helper()
	p.is(func() api.Errno { return p.down(group, n) }, want)
}

func (p *pair) backs(path []int, n int, want api.Errno) {
	p.t.Helper()
	p.is(func() api.Errno { return p.back(path, n) }, want)
}

// tries charges a path; the group that refuses and the error the test says itself.
func (p *pair) tries(path []int, n, at int, want api.Errno) {
	p.t.Helper()
	p.is(func() api.Errno {
		got, e := p.try(path, n)
		if got != at {
			p.t.Fatalf("Try(%v, %d): at %d, not %d: %s", path, n, got, at, p.all())
		}
		return e
	}, want)
}

// used holds the counts of some groups, from one on, against what the test says itself.
func (p *pair) used(first int, want ...int) {
	p.t.Helper()
	for i, n := range want {
		if got := p.c.Used(first + i); got != n {
			p.t.Fatalf("Used(%d): %d, not %d: %s", first+i, got, n, p.all())
		}
	}
}

// most holds a limit against what the test says itself.
func (p *pair) most(group, want int) {
	p.t.Helper()
	if got := p.c.Most(group); got != want {
		p.t.Fatalf("Most(%d): %d, not %d: %s", group, got, want, p.all())
	}
}

// upTo are the numbers from one to another one.
func upTo(from, to int) []int {
	var l []int
	for i := from; i <= to; i++ {
		l = append(l, i)
	}
	return l
}

// noGroups are numbers that are no groups.
func noGroups() []int {
	return []int{
		math.MinInt, math.MinInt + 1, math.MinInt32, -1 << 32, -most, -17, -16, -2, -1, 0, 17, 18, 31, 32, 33, 64, 256, 257, 1<<16 + 1, math.MaxInt32,
		1 << 32, 1<<32 + 1, 1<<32 + 16, most, math.MaxInt - 1, math.MaxInt,
	}
}

// noNumbers are numbers that are none of bytes.
func noNumbers() []int {
	return []int{math.MinInt, math.MinInt + 1, math.MinInt32, -1 << 32, -most - 1, -most, -256, -2, -1, most + 1, most + 2, 2 * most, 1 << 62, math.MaxInt - most, math.MaxInt - 1, math.MaxInt}
}

// paths are paths of few and many groups, in many orders.
func paths() [][]int {
	return [][]int{
		{1}, {2}, {16}, {2, 1}, {1, 2}, {16, 1}, {3, 2, 1}, {1, 3, 2}, {7, 16, 15, 1}, {8, 7, 6, 5, 4, 3, 2}, upTo(1, 8), upTo(9, 16), {8, 7, 6, 5, 4, 3, 2, 1},
		{16, 14, 12, 10, 8, 6, 4, 2}, {5, 13, 1, 16, 9, 2, 11, 7},
	}
}

// noPaths are lists that are no paths, each with the error that comes first.
func noPaths() map[api.Errno][][]int {
	return map[api.Errno][][]int{
		api.ErrArg: {
			nil, {}, upTo(1, 9), upTo(8, 16), upTo(1, 16), {1, 1}, {16, 16}, {1, 2, 1}, {2, 1, 1}, {2, 2, 1}, {3, 2, 1, 3}, {8, 7, 6, 5, 4, 3, 2, 8}, {8, 7, 6, 5, 4, 3, 2, 2},
			{8, 7, 6, 5, 5, 3, 2, 1}, {8, 7, 6, 5, 4, 3, 8, 1}, {4, 4, 4}, slices.Repeat([]int{1}, 8), slices.Repeat([]int{1}, 9), slices.Repeat([]int{2, 1}, 4),
			slices.Repeat([]int{16}, 300), append(upTo(1, 16), upTo(1, 16)...),
		},
		api.ErrGroup: {
			{0}, {-1}, {17}, {0, 1}, {2, 0}, {17, 1}, {1, 17}, {3, 17, 1}, {3, 2, 17}, {3, -1, 1}, {8, 7, 6, 5, 4, 3, 2, 17}, {8, 7, 6, 5, 4, 3, 2, 0}, {17, 7, 6, 5, 4, 3, 2, 1},
			{8, 7, 6, 17, 4, 3, 2, 1}, {0, 0}, {17, 17}, {-1, -1, -1}, slices.Repeat([]int{0}, 8), {1, math.MaxInt}, {math.MinInt, 1},
			// a group that is none, ahead of one that is there twice, between and behind
			{17, 1, 1}, {1, 0, 1}, {8, 7, 6, 5, 4, 17, 3, 8}, {2, -1, 2, 2}, {1, 1, 17}, {2, 1, 2, 0}, {3, 3, 2, -1}, {8, 7, 6, 5, 4, 3, 8, 17}, {1, 1, math.MinInt}, {16, 16, math.MaxInt},
			// one that is none, of more than 8
			append(upTo(1, 8), 17), append([]int{0}, upTo(1, 8)...), {1, 2, 3, 4, 17, 5, 6, 7, 8}, upTo(9, 17), upTo(0, 16), upTo(0, 17),
			// all of these
			slices.Repeat([]int{-1}, 9), slices.Repeat([]int{17}, 300), append(slices.Repeat([]int{1}, 9), 0), append([]int{17}, slices.Repeat([]int{2, 1}, 6)...),
		},
	}
}

// noise gives numbers without a pattern, the same ones each time.
type noise uint64

func (n *noise) next(below int) int {
	*n = *n*6364136223846793005 + 1442695040888963407
	return int(uint64(*n)>>33) % below
}

// shuffled are the first groups of an order without a pattern.
func (n *noise) shuffled(many int) []int {
	l := upTo(1, 16)
	for i := range many {
		at := i + n.next(16-i)
		l[i], l[at] = l[at], l[i]
	}
	return l[:many]
}

func TestNew(t *testing.T) { // P12.1, P12.4
	p := newPair(t)
	p.mustStand()
	for group := 1; group <= 16; group++ {
		p.used(group, 0)
		p.most(group, most)
	}
	if most != api.MaxNumber || api.MaxGroups != 16 || api.MaxDepth != 8 {
		t.Error("the limits are others")
	}
	for _, group := range noGroups() {
		p.used(group, 0)
		p.most(group, 0)
	}
	for group := 1; group <= 16; group++ { // nothing to take back, but nothing
		p.downs(group, 1, api.ErrArg)
		p.downs(group, 0, api.OK)
		p.backs([]int{group}, 1, api.ErrArg)
		p.backs([]int{group}, 0, api.OK)
	}
}

func TestNone(t *testing.T) { // nil and zero counters: ErrNil ahead of all other errors, R1
	zero := &charge.Charge{}
	for range 2 { // zero ones are still that behind all these calls
		for name, c := range map[string]*charge.Charge{"nil": nil, "zero": zero, "other zero ones": new(charge.Charge)} {
			for _, group := range append(noGroups(), upTo(1, 16)...) {
				for _, n := range append(noNumbers(), 0, 1, most) {
					if a, b, d := c.Limit(group, n), c.Up(group, n), c.Down(group, n); a != api.ErrNil || b != api.ErrNil || d != api.ErrNil {
						t.Errorf("%s: %d, %d: %d, %d, %d", name, group, n, a, b, d)
					}
				}
				if c.Used(group) != 0 || c.Most(group) != 0 {
					t.Errorf("%s: %d: %d, %d", name, group, c.Used(group), c.Most(group))
				}
			}
			for _, path := range slices.Concat(paths(), noPaths()[api.ErrArg], noPaths()[api.ErrGroup]) {
				for _, n := range []int{0, 1, most, -1, most + 1, math.MinInt, math.MaxInt} {
					at, e := c.Try(path, n)
					if b := c.Back(path, n); at != 0 || e != api.ErrNil || b != api.ErrNil {
						t.Errorf("%s: %v, %d: %d, %d, %d", name, path, n, at, e, b)
					}
				}
			}
		}
	}
}

// busy is counters with charges and limits that are all different.
func busy(t *testing.T) *pair {
	t.Helper()
	p := newPair(t)
	for group := 1; group <= 16; group++ {
		p.up(group, 100*group)
		p.limit(group, 100*group+20-group)
	}
	p.limit(3, 5) // below what is charged
	p.limit(9, 0)
	p.mustStand()
	return p
}

func TestNoSuchGroup(t *testing.T) { // ErrGroup, P12.4, P12.5
	for _, p := range []*pair{newPair(t), busy(t)} {
		for _, group := range noGroups() {
			for _, n := range append(noNumbers(), 0, 1, most) { // the group is named ahead of the number
				p.limits(group, n, api.ErrGroup)
				p.ups(group, n, api.ErrGroup)
				p.downs(group, n, api.ErrGroup)
				p.tries([]int{group}, n, 0, api.ErrGroup)
				p.backs([]int{group}, n, api.ErrGroup)
			}
			p.used(group, 0)
			p.most(group, 0)
		}
	}
}

func TestNoSuchNumber(t *testing.T) { // ErrArg, also where the charge would be refused, P12.5
	for _, p := range []*pair{newPair(t), busy(t)} {
		for _, n := range noNumbers() {
			for group := 1; group <= 16; group++ {
				p.limits(group, n, api.ErrArg)
				p.ups(group, n, api.ErrArg)
				p.downs(group, n, api.ErrArg)
			}
			for _, path := range paths() {
				p.tries(path, n, 0, api.ErrArg)
				p.backs(path, n, api.ErrArg)
			}
		}
	}
}

func TestNoPath(t *testing.T) { // ErrArg, ErrGroup, their order, P12.5
	for _, p := range []*pair{newPair(t), busy(t)} {
		for e, l := range noPaths() {
			for _, path := range l {
				for _, n := range append(noNumbers(), 0, 1, 1000, most) {
					p.tries(path, n, 0, e)
					p.backs(path, n, e)
				}
			}
		}
	}
}

func TestNoPathAtEachPlace(t *testing.T) { // ErrArg, ErrGroup: one fault in paths of each length
	p := newPair(t)
	for group := 1; group <= 16; group++ {
		p.ups(group, 10*group, api.OK)
	}
	for many := 1; many <= 8; many++ {
		good := upTo(16-many, 15)
		for at := range many {
			for _, group := range noGroups() {
				path := slices.Clone(good)
				path[at] = group
				p.tries(path, 1, 0, api.ErrGroup)
				p.backs(path, 1, api.ErrGroup)
			}
			for other := range at {
				path := slices.Clone(good)
				path[at] = path[other]
				p.tries(path, 1, 0, api.ErrArg)
				p.backs(path, 1, api.ErrArg)
			}
		}
		p.tries(good, 1, 0, api.OK)
		p.backs(good, 1, api.OK)
	}
}

func TestAllLists(t *testing.T) { // ErrArg, ErrGroup: all lists of up to 4 of 5 numbers, two of them none
	lists := [][]int{nil}
	for at := 0; at < len(lists); at++ {
		p := newPair(t)
		for _, n := range []int{0, 1, -1} {
			p.try(lists[at], n)
			p.mustStand()
			p.back(lists[at], n)
			p.mustStand()
		}
		if len(lists[at]) < 4 {
			for _, group := range []int{0, 1, 2, 16, 17} {
				lists = append(lists, append(slices.Clone(lists[at]), group))
			}
		}
	}
	if len(lists) != 1+5+25+125+625 {
		t.Error("lists:", len(lists))
	}
}

func TestNoGroupAheadOfAll(t *testing.T) { // ErrGroup: at each place of lists of each length, with all groups different or not, with good and bad numbers, P12.5
	p := busy(t)
	for many := 1; many <= 16; many++ {
		for _, list := range [][]int{upTo(1, many), slices.Repeat([]int{5}, many), slices.Repeat([]int{4, 3}, many)[:many]} {
			for at := range many {
				for _, group := range []int{0, 17, -1, math.MinInt, math.MaxInt} {
					path := slices.Clone(list)
					path[at] = group
					for _, n := range []int{0, 1, 1000, most, -1, most + 1, math.MinInt, math.MaxInt} {
						p.tries(path, n, 0, api.ErrGroup)
						p.backs(path, n, api.ErrGroup)
					}
				}
			}
		}
		p.done = nil
	}
}

func TestLongLists(t *testing.T) { // ErrArg, ErrGroup, R1: of any length beyond 8
	p := busy(t)
	for _, many := range []int{9, 10, 15, 16, 17, 64, 256, 257, 1 << 16, 1<<16 + 1} {
		for first, want := range map[int]api.Errno{0: api.ErrGroup, 1: api.ErrArg, 17: api.ErrGroup} {
			path := slices.Repeat([]int{first, 2}, many)[:many]
			p.tries(path, 1, 0, want)
			p.backs(path, 1, want)
		}
		path := append(slices.Repeat([]int{2}, many), 17) // the last one alone
		p.tries(path, 1, 0, api.ErrGroup)
		p.backs(path, 1, api.ErrGroup)
	}
}

func TestLimit(t *testing.T) { // P12.1, P12.4
	p := newPair(t)
	for group := 1; group <= 16; group++ {
		for _, n := range []int{0, 1, 2, 255, 256, math.MaxInt32, 1 << 32, 1<<32 + 1, most - 1, most, 7, most, 100 * group} {
			p.limits(group, n, api.OK)
			p.most(group, n)
			p.used(group, 0)
		}
	}
	for group := 1; group <= 16; group++ {
		p.most(group, 100*group)
	}
}

func TestLimitBelowWhatIsCharged(t *testing.T) { // P12.1, and the other calls behind it
	p := newPair(t)
	p.tries([]int{2, 1}, 50, 0, api.OK)
	p.limits(2, 30, api.OK)
	p.used(1, 50, 50)
	p.most(2, 30)
	for _, n := range []int{0, 1, 20, 30, 31, most} { // more than the limit would be charged even by none more
		p.ups(2, n, api.ErrCharge)
		p.tries([]int{3, 2, 1}, n, 2, api.ErrCharge)
		p.tries([]int{2, 1}, n, 2, api.ErrCharge)
		p.tries([]int{1, 2}, min(n, 100), 2, api.ErrCharge)
	}
	p.used(1, 50, 50, 0)
	p.downs(2, 51, api.ErrArg)
	p.downs(2, 19, api.OK)
	p.ups(2, 0, api.ErrCharge)
	p.used(2, 31)
	p.backs([]int{1, 2}, 1, api.OK) // 30 and 30 are just what may be charged
	p.used(1, 49, 30)
	p.ups(2, 0, api.OK)
	p.ups(2, 1, api.ErrCharge)
	p.tries([]int{2, 1}, 0, 0, api.OK)
	p.backs([]int{2, 1}, 30, api.OK)
	p.used(1, 19, 0)
	p.ups(2, 31, api.ErrCharge)
	p.ups(2, 30, api.OK)
	p.limits(2, 0, api.OK)
	p.backs([]int{2}, 30, api.OK)
	p.ups(2, 0, api.OK)
	p.ups(2, 1, api.ErrCharge)
}

func TestLimitRaisedAgain(t *testing.T) { // P12.1
	p := newPair(t)
	p.limits(5, 10, api.OK)
	p.ups(5, 10, api.OK)
	p.ups(5, 1, api.ErrCharge)
	p.limits(5, 11, api.OK)
	p.ups(5, 2, api.ErrCharge)
	p.ups(5, 1, api.OK)
	p.limits(5, 3, api.OK)
	p.limits(5, most, api.OK)
	p.ups(5, most-11, api.OK)
	p.used(5, most)
	p.ups(5, 1, api.ErrCharge)
	p.limits(5, most, api.OK)
	p.used(5, most)
}

func TestUp(t *testing.T) { // P12.2: up to just the limit, and one more
	for _, limit := range []int{0, 1, 2, 100, 255, 256, math.MaxInt32, 1 << 32, most - 1, most} {
		for _, group := range []int{1, 2, 8, 16} {
			p := newPair(t)
			p.limits(group, limit, api.OK)
			p.ups(group, 0, api.OK)
			if limit < most {
				p.ups(group, limit+1, api.ErrCharge)
				p.ups(group, most, api.ErrCharge)
			}
			p.ups(group, limit, api.OK)
			p.used(group, limit)
			p.ups(group, 0, api.OK)
			for _, n := range []int{1, 2, max(limit, 1), most - 1, most} {
				p.ups(group, n, api.ErrCharge)
				p.tries([]int{group}, n, group, api.ErrCharge)
			}
			p.used(group, limit)
		}
	}
}

func TestUpInSteps(t *testing.T) { // P12.2
	p := newPair(t)
	p.limits(7, 10, api.OK)
	p.ups(7, 4, api.OK)
	p.ups(7, 7, api.ErrCharge)
	p.ups(7, 5, api.OK)
	p.ups(7, 2, api.ErrCharge)
	p.ups(7, 1, api.OK)
	p.used(6, 0, 10, 0)
	p.downs(7, 3, api.OK)
	p.ups(7, 4, api.ErrCharge)
	p.ups(7, 3, api.OK)
	p.used(7, 10)
}

func TestDown(t *testing.T) { // P12.2: just what is charged, and one more
	for _, n := range []int{0, 1, 2, 100, 256, math.MaxInt32, 1 << 32, most - 1, most} {
		for _, group := range []int{1, 9, 16} {
			p := newPair(t)
			p.ups(group, n, api.OK)
			if n < most {
				p.downs(group, n+1, api.ErrArg)
				p.downs(group, most, api.ErrArg)
			}
			p.downs(group, 0, api.OK)
			p.used(group, n)
			p.limits(group, 0, api.OK) // which is asked by Up alone
			p.downs(group, n, api.OK)
			p.used(group, 0)
			p.downs(group, 1, api.ErrArg)
			p.downs(group, most, api.ErrArg)
			p.downs(group, 0, api.OK)
		}
	}
}

func TestOneGroupAlone(t *testing.T) { // P12.2: Up and Down know no groups above
	p := newPair(t)
	for group := 1; group <= 16; group++ {
		p.ups(group, group, api.OK)
	}
	for group := 16; group >= 1; group-- {
		p.downs(group, group+1, api.ErrArg)
		p.downs(group, group, api.OK)
	}
	p.limits(1, 0, api.OK)
	p.ups(2, 5, api.OK)
	p.used(1, 0, 5, 0)
}

func TestTry(t *testing.T) { // P12.3: each group of a path, and no other one
	for _, path := range paths() {
		for _, n := range []int{0, 1, 2, 77, most - 1, most} {
			p := newPair(t)
			p.tries(path, n, 0, api.OK)
			for group := 1; group <= 16; group++ {
				want := 0
				if slices.Contains(path, group) {
					want = n
				}
				p.used(group, want)
				p.most(group, most)
			}
			if n > 0 {
				p.tries(path, most, path[0], api.ErrCharge)
			}
			p.backs(path, n, api.OK)
			for group := 1; group <= 16; group++ {
				p.used(group, 0)
			}
		}
	}
}

func TestTryRefused(t *testing.T) { // P12.3, P12.5: at each place, by one too many: those before it, and those behind it, are as they were
	for _, path := range paths() {
		for at, group := range path {
			for _, n := range []int{1, 2, 100, most} {
				p := newPair(t)
				for i, other := range path { // room for just as many in all other ones
					p.limits(other, most, api.OK)
					p.ups(other, min(i*3, most-n), api.OK)
					p.limits(other, min(i*3, most-n)+n, api.OK)
				}
				p.limits(group, min(at*3, most-n)+n-1, api.OK)
				p.tries(path, n, group, api.ErrCharge)
				for i, other := range path {
					p.used(other, min(i*3, most-n))
				}
				p.tries(path, n-1, 0, api.OK)
				p.backs(path, n-1, api.OK)
				p.limits(group, min(at*3, most-n)+n, api.OK)
				p.tries(path, n, 0, api.OK)
			}
		}
	}
}

func TestTryRefusedByMany(t *testing.T) { // P12.3: the first one of the path is told, for all sets of groups that refuse
	for _, path := range [][]int{{8, 7, 6, 5, 4, 3, 2, 1}, {5, 13, 1, 16, 9, 2, 11, 7}} {
		for set := range 256 {
			p := newPair(t)
			first := 0
			for at, group := range slices.Backward(path) {
				p.up(group, 10*group)
				if set>>at&1 == 1 {
					p.limit(group, 10*group+4)
					first = group
				}
			}
			want := api.ErrCharge
			if set == 0 {
				want = api.OK
			}
			p.tries(path, 5, first, want)
			if set != 0 {
				for _, group := range path {
					p.used(group, 10*group)
				}
			}
			p.try(path, 4)
			p.mustStand()
		}
	}
}

func TestTryOfNone(t *testing.T) { // P12.3: n of 0
	p := newPair(t)
	for _, path := range paths() {
		p.tries(path, 0, 0, api.OK)
		p.backs(path, 0, api.OK)
	}
	for group := 1; group <= 16; group++ {
		p.limits(group, 0, api.OK)
	}
	for _, path := range paths() {
		p.tries(path, 0, 0, api.OK)
		p.tries(path, 1, path[0], api.ErrCharge)
		p.backs(path, 0, api.OK)
		p.backs(path, 1, api.ErrArg)
	}
	p.limits(2, 9, api.OK)
	p.ups(2, 9, api.OK)
	p.limits(2, 8, api.OK)
	p.tries([]int{3, 2, 1}, 0, 2, api.ErrCharge) // more than the limit would still be charged
	p.tries([]int{3, 1}, 0, 0, api.OK)
}

func TestTryInAnyOrder(t *testing.T) { // P12.3: a path is in the order in which it is passed
	p := newPair(t)
	p.limits(4, 3, api.OK)
	p.limits(12, 3, api.OK)
	p.tries([]int{4, 12, 1}, 4, 4, api.ErrCharge)
	p.tries([]int{12, 4, 1}, 4, 12, api.ErrCharge)
	p.tries([]int{1, 12, 4}, 4, 12, api.ErrCharge)
	p.tries([]int{1, 4, 12}, 4, 4, api.ErrCharge)
	p.tries([]int{1, 4, 12}, 3, 0, api.OK)
	p.used(1, 3)
	p.used(4, 3)
	p.used(12, 3)
	p.backs([]int{12, 1, 4}, 2, api.OK)
	p.used(1, 1)
	p.used(4, 1)
	p.used(12, 1)
}

func TestBack(t *testing.T) { // P12.3, P12.5: just what is charged, and one more, at each place
	for _, path := range paths() {
		for at, group := range path {
			for _, n := range []int{1, 2, 100, most} {
				p := newPair(t)
				p.tries(path, n, 0, api.OK)
				p.downs(group, 1, api.OK)
				p.backs(path, n, api.ErrArg)
				for i, other := range path {
					want := n
					if i == at {
						want = n - 1
					}
					p.used(other, want)
				}
				p.backs(path, n-1, api.OK)
				for i, other := range path {
					want := 1
					if i == at {
						want = 0
					}
					p.used(other, want)
				}
				p.ups(group, 1, api.OK)
				p.backs(path, 2, api.ErrArg)
				p.backs(path, 1, api.OK)
				p.backs(path, 1, api.ErrArg)
			}
		}
	}
}

func TestBackOfManySizes(t *testing.T) { // P12.3, P12.5: for all sets of groups that are charged too little
	path := []int{5, 13, 1, 16, 9, 2, 11, 7}
	for set := range 256 {
		p := newPair(t)
		for at, group := range path {
			p.up(group, 20+group-20*(set>>at&1))
			p.limit(group, group) // which is asked by Up and Try alone
		}
		want := api.ErrArg
		if set == 0 {
			want = api.OK
		}
		p.backs(path, 20, want)
		p.backs(path, 1, api.OK)
	}
}

func TestBackOfOtherPaths(t *testing.T) { // P12.3: what was charged by Up, or for other paths, is as good
	p := newPair(t)
	p.ups(1, 3, api.OK)
	p.tries([]int{2, 4}, 3, 0, api.OK)
	p.backs([]int{4, 1}, 3, api.OK)
	p.used(1, 0, 3, 0, 0)
	p.backs([]int{2, 1}, 1, api.ErrArg)
	p.downs(2, 3, api.OK)
}

func TestGroupsShareNothing(t *testing.T) { // P12.1 to P12.4: each one has a count and a limit of its own
	for group := 1; group <= 16; group++ {
		p := newPair(t)
		p.limits(group, 9, api.OK)
		p.ups(group, 9, api.OK)
		for other := 1; other <= 16; other++ {
			if other != group {
				p.used(other, 0)
				p.most(other, most)
				p.ups(other, 10, api.OK)
				p.used(other, 10)
			}
		}
		p.used(group, 9)
		p.most(group, 9)
	}
}

// sizes are what a group may be charged in the states of TestAllStates, and its limits there; the last one is that of new counters.
func sizes() []standing {
	var l []standing
	for used := range 3 {
		for _, limit := range []int{0, 1, 2, most} {
			l = append(l, standing{used, limit})
		}
	}
	return l
}

// somePaths are all paths of some groups.
func somePaths(groups []int) [][]int {
	all := [][]int{nil}
	for at := 0; at < len(all); at++ {
		for _, group := range groups {
			if !slices.Contains(all[at], group) {
				all = append(all, append(slices.Clone(all[at]), group))
			}
		}
	}
	return all[1:]
}

// inState is counters of which groups are charged so much, with such limits.
func inState(t *testing.T, groups []int, as []standing) *pair {
	t.Helper()
	p := newPair(t)
	for i, group := range groups {
		p.up(group, as[i].used)
		p.limit(group, as[i].most)
	}
	p.mustStand()
	return p
}

func TestAllStates(t *testing.T) { // P12.2, P12.3, P12.5, P12.6: each path of 3 groups, in all states of them, what is charged above the limit included
	groups := []int{16, 1, 5}
	paths := somePaths(groups)
	if len(paths) != 3+6+6 {
		t.Fatal("paths:", paths)
	}
	for _, a := range sizes() {
		for _, b := range sizes() {
			for _, c := range sizes() {
				p := inState(t, groups, []standing{a, b, c})
				for _, path := range paths {
					for n := range 4 {
						p.mustTryAndBack(path, n)
					}
				}
			}
		}
	}
}

// mustTryAndBack tries a path and takes it back, or takes back first and tries then, so that all is as it was; it holds P12.5 and P12.6 by what the counters themselves tell.
func (p *pair) mustTryAndBack(path []int, n int) {
	p.t.Helper()
	was := p.tells()
	bookWas, doneWas := len(p.m.book), len(p.done)
	at, e := p.try(path, n)
	if (e == api.ErrCharge) != slices.Contains(path, at) || e != api.OK && e != api.ErrCharge {
		p.t.Fatalf("Try(%v, %d): %d, %d: %s", path, n, at, e, p.all())
	}
	p.mustBeBounded(was)
	if e == api.OK {
		p.mustStand()
		p.holds(p.back(path, n), api.OK)
	}
	if p.tells() != was {
		p.t.Fatalf("Try(%v, %d) and Back: %v, not %v (P12.6): %s", path, n, p.tells(), was, p.all())
	}
	if p.back(path, n) == api.OK {
		p.mustStand()
		p.mustBeBounded(was)
		for _, group := range path {
			p.c.Limit(group, most)
		}
		p.holds(second(p.c.Try(path, n)), api.OK)
		for _, group := range path {
			p.c.Limit(group, was[group].most)
		}
	}
	if p.tells() != was {
		p.t.Fatalf("Back and Try(%v, %d): %v, not %v: %s", path, n, p.tells(), was, p.all())
	}
	p.m.book, p.done = p.m.book[:bookWas], p.done[:doneWas]
}

// second is the second one of two results.
func second(_ int, e api.Errno) api.Errno { return e }

// mustBeBounded holds P12.6 by what the counters themselves tell: no count is below 0, none is higher than it was and above its limit.
func (p *pair) mustBeBounded(was [17]standing) {
	p.t.Helper()
	for group, is := range p.tells() {
		if is.used < 0 || is.used > is.most && is.used > was[group].used {
			p.t.Fatalf("group %d: %v, before that %v (P12.6): %s", group, is, was[group], p.all())
		}
	}
}

func TestManyCalls(t *testing.T) { // P12.1 to P12.6
	count := map[api.Errno]int{}
	late := 0
	for seed := range 300 {
		n := noise(seed)
		p := newPair(t)
		scale := []int{1, 1, 1 << 31, most / 12}[n.next(4)]
		for range 60 {
			was := p.tells()
			path := n.shuffled(1 + n.next(8))
			switch n.next(16) {
			case 0:
				path[n.next(len(path))] = 17 * n.next(2)
			case 1:
				path[n.next(len(path))] = path[0]
			}
			size := scale*n.next(13) - n.next(2)
			var e api.Errno
			var at int
			switch n.next(6) {
			case 0:
				e = p.limit(path[0], size)
			case 1:
				e = p.up(path[0], size)
			case 2:
				e = p.down(path[0], size/2)
			case 3:
				e = p.back(path, size/4)
			default:
				at, e = p.try(path, size)
			}
			p.mustStand()
			p.mustBeBounded(was)
			if e != api.OK && p.tells() != was {
				t.Fatalf("%v, not %v, behind an error: %s", p.tells(), was, p.all())
			}
			count[e]++
			if at != 0 && at != path[0] {
				late++
			}
		}
	}
	if count[api.OK] < 3000 || count[api.ErrArg] < 3000 || count[api.ErrGroup] < 500 || count[api.ErrCharge] < 2000 || late < 1000 {
		t.Error("too few of some sort:", count, late)
	}
}

func TestTryAndBackChangeNothing(t *testing.T) { // P12.6: on any counters, for any path, also with calls between them that are taken back
	n := noise(3)
	done := 0
	for range 300 {
		p := newPair(t)
		for group := 1; group <= 16; group++ {
			p.up(group, n.next(40))
			p.limit(group, n.next(80))
		}
		before := p.tells()
		var stack [][]int
		var many []int
		for range 12 {
			path, size := n.shuffled(1+n.next(8)), n.next(9)
			if _, e := p.try(path, size); e == api.OK {
				stack, many = append(stack, path), append(many, size)
				done++
			}
		}
		for at := range stack { // in the order in which they were tried
			p.backs(stack[at], many[at], api.OK)
		}
		if p.tells() != before {
			t.Fatalf("%v, not %v (P12.6): %s", p.tells(), before, p.all())
		}
	}
	if done < 500 {
		t.Error("too few were charged:", done)
	}
}

// grown is a tree with groups at all depths.
func grown(t *testing.T) *tree.Tree {
	t.Helper()
	tr := tree.New()
	for _, parent := range []int{1, 2, 3, 4, 5, 6, 7, 1, 9, 9, 11, 2, 5, 1, 15} {
		if _, e := tr.Add(parent); e != api.OK {
			t.Fatal(e)
		}
	}
	return tr
}

func TestRootHasTheSum(t *testing.T) { // P12.7: of the paths of a tree, each of which ends at its root
	refused, back := 0, 0
	for seed := range 60 {
		tr, p, n := grown(t), newPair(t), noise(seed)
		for group := 1; group <= 16; group++ {
			p.limit(group, 10+n.next(300))
		}
		p.limit(1, 300)
		var left []entry // what was tried and not given back
		sum := 0
		for range 80 {
			group, size := 1+n.next(16), n.next(40)
			if at := n.next(3); at < len(left) && n.next(2) == 0 { // give back some of it, or all
				size = min(size, left[at].n)
				p.holds(p.back(tr.Path(left[at].group), size), api.OK)
				left[at].n -= size
				sum -= size
				back++
			} else if _, e := p.try(tr.Path(group), size); e == api.OK {
				left = append(left, entry{group, size})
				sum += size
			} else {
				refused++
			}
			if got := p.c.Used(1); got != sum {
				t.Fatalf("Used(1): %d, not %d (P12.7): %s", got, sum, p.all())
			}
			p.mustStand()
		}
		for _, x := range left {
			p.holds(p.back(tr.Path(x.group), x.n), api.OK)
		}
		for group := 1; group <= 16; group++ {
			p.used(group, 0)
		}
	}
	if refused < 500 || back < 500 {
		t.Error("too few:", refused, back)
	}
}

func TestSameAnswersEachTime(t *testing.T) { // R2: asking changes nothing, and the same calls tell the same
	p, q := newPair(t), newPair(t)
	for seed := range 40 {
		n := noise(seed)
		path, size := n.shuffled(1+n.next(8)), n.next(50)
		for range 3 {
			if p.tells() != q.tells() {
				t.Fatal(p.tells(), q.tells())
			}
		}
		p.limit(path[0], 100+size)
		q.limit(path[0], 100+size)
		a, e := p.try(path, size)
		b, f := q.try(path, size)
		if a != b || e != f {
			t.Fatal(a, e, b, f)
		}
		if p.back(path, size/2) != q.back(path, size/2) {
			t.Fatal(p.all())
		}
		p.mustStand()
		q.mustStand()
	}
}

func TestCountersShareNothing(t *testing.T) { // R2: each is held against a model of its own
	n := noise(5)
	pairs := []*pair{newPair(t), newPair(t), newPair(t)}
	for range 200 {
		p := pairs[n.next(3)]
		path, size := n.shuffled(1+n.next(8)), n.next(50)
		switch n.next(4) {
		case 0:
			p.limit(path[0], 4*size)
		case 1:
			p.back(path, size/4)
		default:
			p.try(path, size)
		}
		for _, q := range pairs {
			q.mustStand()
		}
	}
	p := newPair(t)
	p.mustStand()
	p.used(1, 0)
	p.most(1, most)
}

func TestPathsAreNotKept(t *testing.T) { // P12.5: a path may be used again for something else
	p := newPair(t)
	path := []int{3, 2, 1, 9, 9, 9, 9, 9}[:3]
	for _, group := range []int{3, 4, 5} {
		path[0] = group
		if at, e := p.c.Try(path, 10); at != 0 || e != api.OK {
			t.Fatal(at, e)
		}
	}
	path[0], path[1], path[2] = 12, 13, 14
	p.used(1, 30, 30, 10, 10, 10)
	p.used(12, 0, 0, 0)
	if e := p.c.Back(path[:cap(path)], 0); e != api.ErrArg { // 9 is there five times
		t.Error(e)
	}
	p.used(1, 30, 30, 10, 10, 10)
	if !slices.Equal(path[:8], []int{12, 13, 14, 9, 9, 9, 9, 9}) {
		t.Error(path[:8])
	}
}

func TestExamples(t *testing.T) { // the chapter's
	p := newPair(t)
	p.limits(1, 100, api.OK)
	p.tries([]int{3, 2, 1}, 60, 0, api.OK)
	p.used(2, 60)
	p.tries([]int{2, 1}, 41, 1, api.ErrCharge)
	p.used(2, 60)
	p.backs([]int{3, 1}, 61, api.ErrArg)
	p.backs([]int{3, 1}, 60, api.OK)
	p.used(1, 0)
	p.used(2, 60)
	p.ups(17, 1, api.ErrGroup)
	p.ups(1, -1, api.ErrArg)
	p.tries([]int{1, 1}, 1, 0, api.ErrArg)
	p.downs(2, 61, api.ErrArg)
}
