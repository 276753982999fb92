package tree_test

import (
	"math"
	"slices"
	"strconv"
	"strings"
	"testing"

	"wainscot/api"
	"wainscot/tree"
)

// The tests hold the package against the chapter said a second time, in another way: the model writes the whole path of a group down when it is added, and knows nothing of parents and depths. The properties P11.4 and P11.5 are held against what the tree itself tells, without the model.

// model is a hierarchy of the tests.
type model struct {
	paths [][]int      // of group 1, of group 2, and so on
	off   map[int]bool // the groups that were taken offline
}

func newModel() *model { return &model{[][]int{{1}}, map[int]bool{}} }

// path is the path of a group, nothing if there is no such group.
func (m *model) path(group int) []int {
	for _, path := range m.paths {
		if path[0] == group {
			return path
		}
	}
	return nil
}

// isOnline tells whether a group exists and was not taken offline.
func (m *model) isOnline(group int) bool { return m.path(group) != nil && !m.off[group] }

// parent is the second group of a path.
func (m *model) parent(group int) int {
	if path := m.path(group); len(path) > 1 {
		return path[1]
	}
	return 0
}

// heir is what is left first of a path without the groups that are offline.
func (m *model) heir(group int) int {
	left := slices.DeleteFunc(slices.Clone(m.path(group)), func(at int) bool { return m.off[at] })
	return append(left, 0)[0]
}

// add is what Add has to do.
func (m *model) add(parent int) (int, api.Errno) {
	if !m.isOnline(parent) {
		return 0, api.ErrGroup
	}
	above := m.path(parent)
	if len(m.paths) == 16 || len(above) == 8 {
		return 0, api.ErrLimit
	}
	next := len(m.paths) + 1
	m.paths = append(m.paths, append([]int{next}, above...))
	return next, api.OK
}

// offline is what Offline has to do.
func (m *model) offline(group int) api.Errno {
	path := m.path(group)
	switch {
	case path == nil:
		return api.ErrGroup
	case len(path) == 1 || m.off[group]:
		return api.ErrState
	}
	m.off[group] = true
	return api.OK
}

// key tells states apart.
func (m *model) key() string {
	var b strings.Builder
	for _, path := range m.paths {
		b.WriteString(strconv.Itoa(m.parent(path[0])))
		if m.off[path[0]] {
			b.WriteByte('-')
		}
		b.WriteByte(' ')
	}
	return b.String()
}

// pair is a tree and its model, which are always called together.
type pair struct {
	t    *testing.T
	tr   *tree.Tree
	m    *model
	done []string // the calls so far
}

// newPair is a new tree and its model.
func newPair(t *testing.T) *pair {
	t.Helper()
	tr := tree.New()
	if tr == nil {
		t.Fatal("New: nothing")
	}
	return &pair{t, tr, newModel(), nil}
}

// all is the calls so far, for what is told of a fault.
func (p *pair) all() string { return "after " + strings.Join(p.done, " ") }

// add adds, and holds the results against the model.
func (p *pair) add(parent int) (int, api.Errno) {
	p.t.Helper()
	got, e := p.tr.Add(parent)
	want, wantE := p.m.add(parent)
	p.done = append(p.done, "add"+strconv.Itoa(parent))
	if got != want || e != wantE {
		p.t.Fatalf("Add(%d): %d, %d, not %d, %d: %s", parent, got, e, want, wantE, p.all())
	}
	return got, e
}

// offline takes a group offline, and holds the result against the model.
func (p *pair) offline(group int) api.Errno {
	p.t.Helper()
	got := p.tr.Offline(group)
	want := p.m.offline(group)
	p.done = append(p.done, "offline"+strconv.Itoa(group))
	if got != want {
		p.t.Fatalf("Offline(%d): %d, not %d: %s", group, got, want, p.all())
	}
	return got
}

// spoil writes all over the memory of a result, its unused capacity included.
func spoil(l []int) {
	all := l[:cap(l)]
	for at := range all {
		all[at] = -81
	}
}

// mustTell holds everything that is told of a group against the model, and spoils the path that was told.
func (p *pair) mustTell(group int) {
	p.t.Helper()
	if got, want := p.tr.Parent(group), p.m.parent(group); got != want {
		p.t.Fatalf("Parent(%d): %d, not %d: %s", group, got, want, p.all())
	}
	path := p.m.path(group)
	if got := p.tr.Depth(group); got != len(path) {
		p.t.Fatalf("Depth(%d): %d, not %d: %s", group, got, len(path), p.all())
	}
	if got, want := p.tr.Online(group), p.m.isOnline(group); got != want {
		p.t.Fatalf("Online(%d): %v: %s", group, got, p.all())
	}
	if got, want := p.tr.Heir(group), p.m.heir(group); got != want {
		p.t.Fatalf("Heir(%d): %d, not %d: %s", group, got, want, p.all())
	}
	got := p.tr.Path(group)
	if !slices.Equal(got, path) {
		p.t.Fatalf("Path(%d): %v, not %v: %s", group, got, path, p.all())
	}
	spoil(got)
}

// mustStand holds everything that is told of a tree against the model, and the properties.
func (p *pair) mustStand() {
	p.t.Helper()
	many := len(p.m.paths)
	if got := p.tr.Many(); got != many {
		p.t.Fatalf("Many: %d, not %d: %s", got, many, p.all())
	}
	for group := -1; group <= many+1; group++ {
		p.mustTell(group)
		for top := -1; top <= many+1; top++ {
			if got, want := p.tr.Below(group, top), slices.Contains(p.m.path(group), top); got != want {
				p.t.Fatalf("Below(%d, %d): %v: %s", group, top, got, p.all())
			}
		}
	}
	p.mustHaveProperties()
}

// mustHaveProperties holds P11.4 and P11.5, by what the tree itself tells.
func (p *pair) mustHaveProperties() {
	p.t.Helper()
	for group := 1; group <= p.tr.Many(); group++ {
		path := p.tr.Path(group)
		if len(path) != p.tr.Depth(group) || len(path) < 1 || len(path) > 8 {
			p.t.Fatalf("Path(%d) is %v at depth %d (P11.4): %s", group, path, p.tr.Depth(group), p.all())
		}
		for at := range len(path) - 1 {
			if p.tr.Parent(path[at]) != path[at+1] {
				p.t.Fatalf("Path(%d) is %v, but Parent(%d) is %d (P11.4): %s", group, path, path[at], p.tr.Parent(path[at]), p.all())
			}
		}
		if path[0] != group || path[len(path)-1] != 1 {
			p.t.Fatalf("Path(%d) is %v (P11.4): %s", group, path, p.all())
		}
		heir := p.tr.Heir(group)
		at := slices.Index(path, heir)
		if at < 0 || !p.tr.Online(heir) || slices.ContainsFunc(path[:at], p.tr.Online) {
			p.t.Fatalf("Heir(%d) is %d, on the path %v (P11.5): %s", group, heir, path, p.all())
		}
	}
}

// is holds an error against the one that the test says itself.
func (p *pair) is(got, want api.Errno) {
	p.t.Helper()
	if got != want {
		p.t.Fatalf("%d, not %d: %s", got, want, p.all())
	}
	p.mustStand()
}

// adds adds a group, whose number the test says itself.
func (p *pair) adds(parent, want int) {
	p.t.Helper()
	got, e := p.add(parent)
	if got != want {
		p.t.Fatalf("Add(%d): %d, not %d: %s", parent, got, want, p.all())
	}
	p.is(e, api.OK)
}

// refuses asks for a group that is refused with an error that the test says itself.
func (p *pair) refuses(parent int, want api.Errno) {
	p.t.Helper()
	group, e := p.add(parent)
	if group != 0 {
		p.t.Fatalf("Add(%d): %d: %s", parent, group, p.all())
	}
	p.is(e, want)
}

// offs takes groups offline, which are online.
func (p *pair) offs(groups ...int) {
	p.t.Helper()
	for _, group := range groups {
		p.is(p.offline(group), api.OK)
	}
}

// number holds a number against what the test says itself.
func (p *pair) number(what string, got, want int) {
	p.t.Helper()
	if got != want {
		p.t.Fatalf("%s: %d, not %d: %s", what, got, want, p.all())
	}
}

// runs holds a path against what the test says itself.
func (p *pair) runs(want ...int) {
	p.t.Helper()
	if got := p.tr.Path(want[0]); !slices.Equal(got, want) {
		p.t.Fatalf("Path(%d): %v, not %v: %s", want[0], got, want, p.all())
	}
}

// below holds Below against what the test says itself.
func (p *pair) below(want bool, group, top int) {
	p.t.Helper()
	if got := p.tr.Below(group, top); got != want {
		p.t.Fatalf("Below(%d, %d): %v: %s", group, top, got, p.all())
	}
}

// grown is a tree with a group below each of some others, in that order.
func grown(t *testing.T, parents ...int) *pair {
	t.Helper()
	p := newPair(t)
	for i, parent := range parents {
		p.adds(parent, i+2)
	}
	return p
}

// upTo are the numbers from one to another one.
func upTo(from, to int) []int {
	var l []int
	for i := from; i <= to; i++ {
		l = append(l, i)
	}
	return l
}

// chain is the parents of groups below each other, down to a depth.
func chain(depth int) []int { return upTo(1, depth-1) }

// star is the parents of so many groups, the root among them, all others of which are below the root.
func star(many int) []int { return slices.Repeat([]int{1}, many-1) }

// twos is the parents of groups each of which has two below it.
func twos(many int) []int {
	var l []int
	for group := 2; group <= many; group++ {
		l = append(l, group/2)
	}
	return l
}

// legs is the parents of two chains that share the root, down to the greatest depth, and of one more group.
func legs() []int { return slices.Concat(upTo(1, 7), []int{1}, upTo(9, 14), []int{1}) }

// comb is the parents of a chain with a group beside each of its own, of which there are 16 in all.
func comb() []int { return []int{1, 1, 2, 2, 4, 4, 6, 6, 8, 8, 10, 10, 12, 12, 1} }

// shapes are trees of few and many groups, all online.
func shapes() map[string][]int {
	return map[string][]int{
		"root": nil, "one": {1}, "two": {1, 1}, "line": {1, 2}, "some": {1, 2, 1, 3, 2, 4, 1}, "chain of 7": chain(7), "chain of 8": chain(8), "star of 15": star(15),
		"star of 16": star(16), "twos of 15": twos(15), "twos of 16": twos(16), "legs": legs(), "comb": comb(), "broom": slices.Concat(chain(7), slices.Repeat([]int{7}, 9)),
	}
}

// full are those of shapes that have 16 groups.
func full() map[string][]int {
	all := shapes()
	for name, parents := range all {
		if len(parents) != 15 {
			delete(all, name)
		}
	}
	return all
}

// noGroups are groups that do not exist where there are so many.
func noGroups(many int) []int {
	return []int{
		math.MinInt, math.MinInt + 1, math.MinInt32, -1 << 32, -17, -16, -8, -3, -2, -1, 0, many + 1, many + 2, 17, 18, 32, 64, 256, 257, 1 << 16, math.MaxInt32,
		1 << 32, 1<<32 + 1, 1<<32 + 2, math.MaxInt - 1, math.MaxInt,
	}
}

// noise gives numbers without a pattern, the same ones each time.
type noise uint64

func (n *noise) next(below int) int {
	*n = *n*6364136223846793005 + 1442695040888963407
	return int(uint64(*n)>>33) % below
}

// step is a call of a tree that may change it.
type step struct {
	isAdd bool
	group int
}

// do makes a call.
func (p *pair) do(s step) api.Errno {
	p.t.Helper()
	if s.isAdd {
		_, e := p.add(s.group)
		return e
	}
	return p.offline(s.group)
}

// after is a tree of which some calls were made.
func after(t *testing.T, steps []step) *pair {
	t.Helper()
	p := newPair(t)
	for _, s := range steps {
		p.do(s)
	}
	return p
}

// states are calls that lead to all states of up to so many groups. Each call in each of these states is held against the model on the way.
func states(t *testing.T, most int) [][]step {
	t.Helper()
	seen := map[string]bool{newModel().key(): true}
	all := [][]step{nil}
	for at := 0; at < len(all); at++ {
		many := after(t, all[at]).tr.Many()
		for group := -1; group <= many+1; group++ {
			for _, isAdd := range []bool{true, false} {
				steps := append(slices.Clone(all[at]), step{isAdd, group})
				p := after(t, steps)
				p.mustStand()
				if key := p.m.key(); !seen[key] && len(p.m.paths) <= most {
					seen[key] = true
					all = append(all, steps)
				}
			}
		}
	}
	return all
}

func TestNew(t *testing.T) { // P11.1: the root alone
	p := newPair(t)
	p.mustStand()
	p.number("Many", p.tr.Many(), 1)
	p.number("Parent(1)", p.tr.Parent(1), 0)
	p.number("Depth(1)", p.tr.Depth(1), 1)
	p.number("Heir(1)", p.tr.Heir(1), 1)
	p.runs(1)
	p.below(true, 1, 1)
	if !p.tr.Online(1) || p.tr.Online(0) || p.tr.Online(2) {
		t.Error("Online:", p.tr.Online(1), p.tr.Online(0), p.tr.Online(2))
	}
}

func TestNone(t *testing.T) { // a nil and a zero Tree, R1
	zero := &tree.Tree{}
	for range 2 { // a zero one is still one behind all these calls
		for name, tr := range map[string]*tree.Tree{"nil": nil, "zero": zero, "another zero one": new(tree.Tree)} {
			for _, group := range append(noGroups(16), upTo(1, 16)...) {
				if got, e := tr.Add(group); got != 0 || e != api.ErrNil {
					t.Errorf("%s: Add(%d): %d, %d", name, group, got, e)
				}
				if e := tr.Offline(group); e != api.ErrNil {
					t.Errorf("%s: Offline(%d): %d", name, group, e)
				}
				if tr.Parent(group) != 0 || tr.Depth(group) != 0 || tr.Online(group) || tr.Heir(group) != 0 || len(tr.Path(group)) != 0 {
					t.Errorf("%s: %d: %d, %d, %v, %d, %v", name, group, tr.Parent(group), tr.Depth(group), tr.Online(group), tr.Heir(group), tr.Path(group))
				}
				for _, top := range []int{group, 0, 1, 2, -1, math.MinInt, math.MaxInt} {
					if tr.Below(group, top) || tr.Below(top, group) {
						t.Errorf("%s: Below(%d, %d): %v, %v", name, group, top, tr.Below(group, top), tr.Below(top, group))
					}
				}
			}
			if tr.Many() != 0 {
				t.Errorf("%s: Many: %d", name, tr.Many())
			}
		}
	}
}

// mustNotExist holds every method of a group that there is not.
func (p *pair) mustNotExist(group int) {
	p.t.Helper()
	many := p.tr.Many()
	p.refuses(group, api.ErrGroup)
	p.is(p.offline(group), api.ErrGroup)
	if p.tr.Parent(group) != 0 || p.tr.Depth(group) != 0 || p.tr.Online(group) || p.tr.Heir(group) != 0 || len(p.tr.Path(group)) != 0 {
		p.t.Fatalf("%d: %d, %d, %v, %d, %v: %s", group, p.tr.Parent(group), p.tr.Depth(group), p.tr.Online(group), p.tr.Heir(group), p.tr.Path(group), p.all())
	}
	for top := 1; top <= many; top++ {
		p.below(false, group, top)
		p.below(false, top, group)
	}
	p.below(false, group, group)
}

func TestNoSuchGroup(t *testing.T) { // P11.1, P11.2, R1
	for _, parents := range shapes() {
		p := grown(t, parents...)
		many := len(parents) + 1
		for _, group := range noGroups(many) {
			p.mustNotExist(group)
			for _, top := range noGroups(many) {
				p.below(false, group, top)
			}
		}
		for group := 2; group <= many; group++ { // that others are offline makes no difference
			p.offs(group)
			p.mustNotExist(many + 1)
			p.mustNotExist(0)
		}
	}
}

func TestAddBelowTheRoot(t *testing.T) { // P11.1: the next number each time
	p := newPair(t)
	for want := 2; want <= 16; want++ {
		p.adds(1, want)
		p.number("Many", p.tr.Many(), want)
		p.number("Parent", p.tr.Parent(want), 1)
		p.number("Depth", p.tr.Depth(want), 2)
		p.number("Heir", p.tr.Heir(want), want)
		p.runs(want, 1)
	}
	p.refuses(1, api.ErrLimit)
	p.number("Many", p.tr.Many(), 16)
}

func TestAddDown(t *testing.T) { // P11.1: below depth 7, below depth 8
	p := newPair(t)
	for want := 2; want <= 8; want++ {
		p.adds(want-1, want)
		p.number("Depth", p.tr.Depth(want), want)
		p.number("Parent", p.tr.Parent(want), want-1)
	}
	p.runs(8, 7, 6, 5, 4, 3, 2, 1)
	p.refuses(8, api.ErrLimit)
	p.refuses(8, api.ErrLimit)
	p.number("Many", p.tr.Many(), 8)
	p.adds(7, 9) // the refused ones took no number
	p.runs(9, 7, 6, 5, 4, 3, 2, 1)
	p.refuses(9, api.ErrLimit)
	p.adds(6, 10)
	p.number("Depth(10)", p.tr.Depth(10), 7)
	p.adds(10, 11)
	p.refuses(11, api.ErrLimit)
	p.adds(1, 12)
	p.number("Depth(12)", p.tr.Depth(12), 2)
	p.number("Many", p.tr.Many(), 12)
}

func TestFull(t *testing.T) { // P11.1: with 15 groups, with 16, and once more
	for name, parents := range full() {
		p := grown(t, parents[:14]...)
		p.number(name, p.tr.Many(), 15)
		p.adds(parents[14], 16)
		for range 2 {
			for parent := 1; parent <= 16; parent++ {
				p.refuses(parent, api.ErrLimit)
			}
			p.number(name, p.tr.Many(), 16)
		}
		p.mustNotExist(17)
	}
}

func TestOfflineGroupsCount(t *testing.T) { // P11.1: 16 groups are those that are offline, too
	p := newPair(t)
	for want := 2; want <= 16; want++ {
		p.adds(1, want)
		p.offs(want)
		p.number("Many", p.tr.Many(), want)
	}
	p.refuses(1, api.ErrLimit)
	p.refuses(16, api.ErrGroup)
}

func TestErrGroupComesFirst(t *testing.T) { // P11.1: of several errors
	for _, parents := range full() {
		p := grown(t, parents...)
		for _, group := range noGroups(16) {
			p.refuses(group, api.ErrGroup) // 16 groups
		}
		for group := 2; group <= 16; group++ {
			p.refuses(group, api.ErrLimit)
			p.offs(group)
			p.refuses(group, api.ErrGroup) // offline, 16 groups, and some at depth 8
		}
		p.refuses(1, api.ErrLimit)
	}
}

func TestOfflineAtTheGreatestDepth(t *testing.T) { // P11.1: ErrGroup, not ErrLimit
	p := grown(t, chain(8)...)
	p.refuses(8, api.ErrLimit)
	p.offs(8)
	p.refuses(8, api.ErrGroup)
	p.offs(7)
	p.refuses(7, api.ErrGroup)
	p.refuses(8, api.ErrGroup)
	p.adds(6, 9)
	p.adds(9, 10)
	p.refuses(10, api.ErrLimit)
}

func TestAddBelowAnOfflineGroup(t *testing.T) { // P11.1: for each one of each shape
	for _, parents := range shapes() {
		for group := 2; group <= len(parents)+1; group++ {
			p := grown(t, parents...)
			p.offs(group)
			p.refuses(group, api.ErrGroup)
			p.refuses(group, api.ErrGroup)
			p.number("Many", p.tr.Many(), len(parents)+1)
		}
	}
}

func TestAddBelowAnOrphan(t *testing.T) { // P11.1: an online group whose parent, or whose whole path but the root, is offline
	p := grown(t, 1, 2, 3)
	p.offs(3)
	p.refuses(3, api.ErrGroup)
	p.adds(4, 5)
	p.runs(5, 4, 3, 2, 1)
	p.number("Heir(5)", p.tr.Heir(5), 5)
	p.offs(2)
	p.adds(4, 6)
	p.adds(6, 7)
	p.runs(7, 6, 4, 3, 2, 1)
	p.offs(6, 4, 7)
	p.number("Heir(7)", p.tr.Heir(7), 1)
	p.adds(5, 8)
	p.number("Heir(8)", p.tr.Heir(8), 8)
	p.refuses(4, api.ErrGroup)
	p.adds(1, 9)
}

func TestRefusedAddTakesNoNumber(t *testing.T) { // P11.1, Order of errors
	p := grown(t, chain(8)...)
	p.offs(5)
	for want := 9; want <= 16; want++ {
		for _, parent := range []int{-1, 0, 5, 8, want, want + 1, 17, math.MinInt, math.MaxInt, 5} {
			e := api.ErrGroup
			if parent == 8 {
				e = api.ErrLimit
			}
			p.refuses(parent, e)
		}
		p.adds(1, want)
		p.runs(want, 1)
	}
	for parent := -1; parent <= 18; parent++ {
		e := api.ErrLimit
		if parent < 1 || parent > 16 || parent == 5 {
			e = api.ErrGroup
		}
		p.refuses(parent, e)
	}
	p.number("Many", p.tr.Many(), 16)
}

func TestOfflineRoot(t *testing.T) { // P11.1: always ErrState
	for _, parents := range shapes() {
		p := grown(t, parents...)
		p.is(p.offline(1), api.ErrState)
		p.is(p.offline(1), api.ErrState)
		for group := 2; group <= len(parents)+1; group++ {
			p.offs(group)
			p.is(p.offline(1), api.ErrState)
			if !p.tr.Online(1) {
				t.Fatal("the root is offline:", p.all())
			}
			p.number("Heir(1)", p.tr.Heir(1), 1)
		}
	}
}

func TestOffline(t *testing.T) { // P11.1: a leaf, and a group with groups below it
	p := grown(t, 1, 2, 2, 1)
	for _, group := range []int{4, 2, 5, 3} {
		if !p.tr.Online(group) {
			t.Fatalf("Online(%d): false: %s", group, p.all())
		}
		p.offs(group)
		if p.tr.Online(group) {
			t.Fatalf("Online(%d): true: %s", group, p.all())
		}
		p.is(p.offline(group), api.ErrState)
		p.is(p.offline(group), api.ErrState)
		if p.tr.Online(group) {
			t.Fatalf("Online(%d): true: %s", group, p.all())
		}
	}
	p.number("Many", p.tr.Many(), 5)
}

func TestOfflineTwice(t *testing.T) { // P11.1: for each one of each shape, in both orders
	for _, parents := range shapes() {
		p, q := grown(t, parents...), grown(t, parents...)
		many := len(parents) + 1
		for group := 2; group <= many; group++ {
			p.offs(group)
			q.offs(many + 2 - group)
		}
		for group := 2; group <= many; group++ {
			p.is(p.offline(group), api.ErrState)
			q.is(q.offline(group), api.ErrState)
		}
	}
}

func TestOfflineMovesNothing(t *testing.T) { // P11.1, P11.2: a group that is offline keeps all, and those below it stay as they are
	for _, parents := range shapes() {
		many := len(parents) + 1
		for off := 2; off <= many; off++ {
			p := grown(t, parents...)
			p.offs(off)
			q := grown(t, parents...)
			for group := 1; group <= many; group++ {
				p.number("Parent", p.tr.Parent(group), q.tr.Parent(group))
				p.number("Depth", p.tr.Depth(group), q.tr.Depth(group))
				p.runs(q.tr.Path(group)...)
				for top := 1; top <= many; top++ {
					p.below(q.tr.Below(group, top), group, top)
				}
				if p.tr.Online(group) != (group != off) {
					t.Fatalf("Online(%d): %v: %s", group, p.tr.Online(group), p.all())
				}
				heir := group
				if group == off {
					heir = q.tr.Parent(off)
				}
				p.number("Heir", p.tr.Heir(group), heir)
			}
			p.number("Many", p.tr.Many(), many)
		}
	}
}

func TestNumbersAreTakenOnce(t *testing.T) { // P11.1: also that of the last group, which is offline
	p := grown(t, 1)
	p.offs(2)
	p.adds(1, 3)
	p.offs(3)
	p.adds(1, 4)
	p.runs(2, 1)
	p.runs(4, 1)
	p.number("Many", p.tr.Many(), 4)
}

func TestHeirs(t *testing.T) { // P11.2
	p := grown(t, chain(8)...)
	p.number("of an online one", p.tr.Heir(8), 8)
	p.offs(8)
	p.number("of an offline one below an online one", p.tr.Heir(8), 7)
	p.offs(6)
	p.number("of one whose grandparent is offline", p.tr.Heir(8), 7)
	p.offs(7)
	p.number("beyond two offline ones", p.tr.Heir(8), 5)
	p.number("beyond one", p.tr.Heir(7), 5)
	p.offs(2, 3)
	p.number("still", p.tr.Heir(8), 5)
	p.number("of an online one below offline ones", p.tr.Heir(4), 4)
	p.number("of the first offline one", p.tr.Heir(2), 1)
	p.number("of the second offline one", p.tr.Heir(3), 1)
	p.offs(5)
	p.number("beyond four", p.tr.Heir(8), 4)
	p.offs(4)
	for group := 1; group <= 8; group++ {
		p.number("of a path that is offline but for the root", p.tr.Heir(group), 1)
	}
}

func TestHeirsOnBranches(t *testing.T) { // P11.2: the parent's heir, not the group with the next lower number
	p := grown(t, 1, 1, 2, 3, 4, 5)
	p.offs(6)
	p.number("Heir(6)", p.tr.Heir(6), 4)
	p.offs(7)
	p.number("Heir(7)", p.tr.Heir(7), 5)
	p.offs(4)
	p.number("Heir(6)", p.tr.Heir(6), 2)
	p.number("Heir(7)", p.tr.Heir(7), 5)
	p.offs(2)
	p.number("Heir(6)", p.tr.Heir(6), 1)
	p.number("Heir(7)", p.tr.Heir(7), 5)
	p.offs(5)
	p.number("Heir(7)", p.tr.Heir(7), 3)
}

func TestBelow(t *testing.T) { // P11.2
	p := grown(t, 1, 1, 2, 4, 3)
	for group := 1; group <= 6; group++ {
		p.below(true, group, group)
		p.below(true, group, 1)
		p.below(group == 1, 1, group)
		for _, none := range noGroups(6) {
			p.below(false, group, none)
			p.below(false, none, group)
			p.below(false, none, none)
		}
	}
	// one branch
	p.below(true, 5, 4)
	p.below(true, 5, 2)
	p.below(false, 4, 5)
	p.below(false, 2, 5)
	p.below(false, 2, 4)
	// two branches
	p.below(false, 5, 3)
	p.below(false, 5, 6)
	p.below(false, 6, 5)
	p.below(false, 3, 2)
	p.below(false, 2, 3)
	p.below(false, 6, 2)
	p.below(true, 6, 3)
	// whether they are online makes no difference
	p.offs(2, 4, 5, 6)
	p.below(true, 5, 2)
	p.below(true, 5, 5)
	p.below(true, 6, 3)
	p.below(false, 6, 2)
}

func TestPaths(t *testing.T) { // P11.2
	p := grown(t, legs()...)
	p.runs(1)
	p.runs(2, 1)
	p.runs(8, 7, 6, 5, 4, 3, 2, 1)
	p.runs(9, 1)
	p.runs(15, 14, 13, 12, 11, 10, 9, 1)
	p.runs(16, 1)
	p.number("Depth(8)", p.tr.Depth(8), 8)
	p.number("Depth(15)", p.tr.Depth(15), 8)
	p.number("Depth(16)", p.tr.Depth(16), 2)
	for group := 2; group <= 16; group++ {
		p.offs(group)
	}
	p.runs(8, 7, 6, 5, 4, 3, 2, 1)
	p.runs(15, 14, 13, 12, 11, 10, 9, 1)
}

func TestAllStates(t *testing.T) { // P11.1, P11.2, P11.4, P11.5: each call in all states of up to 5 groups
	if got := len(states(t, 5)); got != 1+1*2+2*4+6*8+24*16 {
		t.Error("states:", got)
	}
}

func TestAllOfflineSets(t *testing.T) { // P11.2, P11.5: of full trees, group after group
	for name, parents := range full() {
		n := noise(len(name))
		for range 60 {
			p := grown(t, parents...)
			for range 24 {
				p.offline(1 + n.next(16))
			}
			p.mustStand()
		}
	}
}

func TestManyCalls(t *testing.T) { // P11.1 to P11.5
	deep, filled := 0, 0
	for seed := range 400 {
		n := noise(seed)
		p := newPair(t)
		down := n.next(4) // how many of four go below the last group
		for range 60 {
			group := n.next(len(p.m.paths)+3) - 1
			if n.next(4) < down {
				group = len(p.m.paths)
			}
			p.do(step{n.next(5) > 1, group})
		}
		p.mustStand()
		if p.tr.Many() == 16 {
			filled++
		}
		for group := 1; group <= 16; group++ {
			if p.tr.Depth(group) == 8 {
				deep++
			}
		}
	}
	if deep < 20 || filled < 100 {
		t.Error("too few that are deep or full:", deep, filled)
	}
}

func TestSameAnswersEachTime(t *testing.T) { // R2
	for _, parents := range shapes() {
		p, q := grown(t, parents...), grown(t, parents...)
		for _, group := range []int{5, 2, 9, 16, 3} {
			if p.offline(group) != q.offline(group) {
				t.Fatal(p.all())
			}
			for range 3 {
				p.mustStand() // asking changes nothing
				for at := -1; at <= 17; at++ {
					q.runsAs(p, at)
				}
			}
		}
	}
}

// runsAs holds a path against that of another tree.
func (p *pair) runsAs(other *pair, group int) {
	p.t.Helper()
	if got, want := p.tr.Path(group), other.tr.Path(group); !slices.Equal(got, want) {
		p.t.Fatalf("Path(%d): %v, not %v: %s", group, got, want, p.all())
	}
}

func TestTreesShareNothing(t *testing.T) { // R2: each is held against a model of its own
	n := noise(5)
	pairs := []*pair{newPair(t), newPair(t), newPair(t)}
	for range 300 {
		p := pairs[n.next(3)]
		p.do(step{n.next(3) > 0, n.next(len(p.m.paths)+2) - 1})
		for _, q := range pairs {
			q.mustStand()
		}
	}
	p := newPair(t)
	p.mustStand()
	p.number("Many", p.tr.Many(), 1)
}

func TestPathsAreNewMemory(t *testing.T) { // P11.3
	for _, parents := range shapes() {
		p := grown(t, parents...)
		for group := 1; group <= len(parents)+1; group++ {
			want := slices.Clone(p.m.path(group))
			first, second := p.tr.Path(group), p.tr.Path(group)
			spoil(first) // writing into one changes no other one
			if !slices.Equal(second, want) {
				t.Fatalf("Path(%d): %v, not %v: %s", group, second, want, p.all())
			}
			longer := append(second, -1, -2, -3)
			longer[0] = -4
			p.runs(want...)
			p.mustStand()
		}
	}
}

func TestEarlierPathsStay(t *testing.T) { // P11.3: later calls do not write into them
	p := grown(t, chain(4)...)
	first := p.tr.Path(4)
	p.adds(4, 5)
	second := p.tr.Path(5)
	p.offs(2, 4, 3)
	p.adds(5, 6)
	p.tr.Path(6)
	p.tr.Path(1)
	if !slices.Equal(first, []int{4, 3, 2, 1}) || !slices.Equal(second, []int{5, 4, 3, 2, 1}) {
		t.Error(first, second)
	}
}

func TestExamples(t *testing.T) { // the chapter's
	p := newPair(t)
	p.adds(1, 2)
	p.adds(2, 3)
	p.runs(3, 2, 1)
	p.number("Depth(3)", p.tr.Depth(3), 3)
	p.offs(2)
	p.number("Heir(3)", p.tr.Heir(3), 3)
	p.offs(3)
	p.number("Heir(3)", p.tr.Heir(3), 1)
	p.refuses(3, api.ErrGroup)
	p.is(p.offline(1), api.ErrState)
	p.is(p.offline(2), api.ErrState)
	p.below(true, 3, 2)
	p.number("Parent(1)", p.tr.Parent(1), 0)
}
