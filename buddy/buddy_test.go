package buddy_test

import (
	"math"
	"slices"
	"testing"

	"wainscot/api"
	"wainscot/buddy"
	"wainscot/frame"
)

// The tests hold the package against the chapter said a second time, in another way: the model knows allocated blocks alone. As free buddies are always merged, free blocks are the greatest ones for which there is room between them, so that the model neither splits nor merges.

// model is pages of the tests: what is allocated, by its head.
type model struct {
	many int
	out  map[int]api.Page
}

func newModel(many int) *model {
	return &model{many: many, out: map[int]api.Page{}}
}

// free is the head of a free block.
func free(order int) api.Page { return api.Page{Kind: api.PageFree, Order: order} }

// out is the head of an allocated block.
func out(order, cache int) api.Page {
	return api.Page{Kind: api.PageOut, Order: order, Cache: cache}
}

// size is how many pages a block has.
func size(order int) int {
	n := 1
	for range order {
		n *= 2
	}
	return n
}

// hasRoom tells whether a block of an order may be at a page, and whether none of its pages is allocated.
func (m *model) hasRoom(page, order int) bool {
	if page%size(order) != 0 || page+size(order) > m.many {
		return false
	}
	for head, p := range m.out {
		if head < page+size(order) && page < head+size(p.Order) {
			return false
		}
	}
	return true
}

// at is the head of the block that starts at a page.
func (m *model) at(page int) api.Page {
	if p, is := m.out[page]; is {
		return p
	}
	order := 10
	for !m.hasRoom(page, order) {
		order--
	}
	return free(order)
}

// pages is the table.
func (m *model) pages() []api.Page {
	var l []api.Page
	for len(l) < m.many {
		head := m.at(len(l))
		l = append(l, head)
		for range size(head.Order) - 1 {
			l = append(l, api.Page{Kind: api.PageInside})
		}
	}
	return l
}

// freesIn are the heads of the free blocks of each order of a table.
func freesIn(l []api.Page) (frees [11][]int) {
	for page, p := range l {
		if p.Kind == api.PageFree {
			frees[p.Order] = append(frees[p.Order], page)
		}
	}
	return frees
}

// left is how many pages are not allocated.
func (m *model) left() int {
	left := m.many
	for _, p := range m.out {
		left -= size(p.Order)
	}
	return left
}

// alloc is what Alloc has to do.
func (m *model) alloc(order, cache int) (int, api.Errno) {
	if order < 0 || order > 10 || cache < 0 || cache > 8 {
		return 0, api.ErrArg
	}
	frees := freesIn(m.pages())
	for _, heads := range frees[order:] {
		if len(heads) > 0 {
			m.out[heads[0]] = out(order, cache)
			return heads[0], api.OK
		}
	}
	return 0, api.ErrFull
}

// free is what Free has to do.
func (m *model) free(page int) api.Errno {
	if _, is := m.out[page]; !is {
		return api.ErrBlock
	}
	delete(m.out, page)
	return api.OK
}

// outFrom is the first allocated block from a page on, or from the first one on if there is none behind.
func (m *model) outFrom(page int) (int, bool) {
	for i := range m.many {
		at := (page + i) % m.many
		if _, is := m.out[at]; is {
			return at, true
		}
	}
	return 0, false
}

// pair is a Buddy and its model, which are always called together.
type pair struct {
	t *testing.T
	b *buddy.Buddy
	m *model
}

// newPair is whole pages.
func newPair(t *testing.T, many int) pair {
	t.Helper()
	b, e := buddy.New(many)
	if b == nil || e != api.OK {
		t.Fatalf("New(%d): %v, %d", many, b, e)
	}
	return pair{t, b, newModel(many)}
}

// alloc allocates, and holds the result against the model.
func (p pair) alloc(order, cache int) (int, api.Errno) {
	p.t.Helper()
	page, e := p.b.Alloc(order, cache)
	want, wantE := p.m.alloc(order, cache)
	if page != want || e != wantE {
		p.t.Fatalf("Alloc(%d, %d) of %v: %d, %d, not %d, %d", order, cache, p.m.out, page, e, want, wantE)
	}
	return page, e
}

// free frees, and holds the result against the model.
func (p pair) free(page int) api.Errno {
	p.t.Helper()
	e := p.b.Free(page)
	if want := p.m.free(page); e != want {
		p.t.Fatalf("Free(%d) of %v: %d, not %d", page, p.m.out, e, want)
	}
	return e
}

// mustStand holds everything that is told of the pages against the model, and against P6.6.
func (p pair) mustStand() {
	p.t.Helper()
	l := p.m.pages()
	if got := p.b.Pages(); !slices.Equal(got, l) {
		p.t.Fatalf("pages with %v: %v, not %v", p.m.out, heads(got), heads(l))
	}
	if e := frame.Check(p.b.Pages()); e != api.OK {
		p.t.Fatalf("pages with %v: %d", p.m.out, e)
	}
	for order, want := range freesIn(l) {
		mustFrees(p.t, p.b, order, want...)
	}
	mustFrees(p.t, p.b, -1)
	mustFrees(p.t, p.b, 11)
	if got, want := p.b.Left(), p.m.left(); got != want {
		p.t.Fatalf("left with %v: %d, not %d", p.m.out, got, want)
	}
	if got, want := p.b.Whole(), len(p.m.out) == 0; got != want {
		p.t.Fatalf("whole with %v: %v", p.m.out, got)
	}
	p.mustHaveNoTwoHalves()
}

// mustHaveNoTwoHalves tells whether no two buddies are both free.
func (p pair) mustHaveNoTwoHalves() {
	p.t.Helper()
	for order := range 10 {
		frees := p.b.Frees(order)
		for _, page := range frees {
			if page%size(order+1) == 0 && slices.Contains(frees, page+size(order)) {
				p.t.Fatalf("both free: %d and %d of order %d", page, page+size(order), order)
			}
		}
	}
}

// heads are what the blocks of a table say, by their pages.
func heads(l []api.Page) map[int]api.Page {
	all := map[int]api.Page{}
	for page, h := range l {
		if h != (api.Page{Kind: api.PageInside}) {
			all[page] = h
		}
	}
	return all
}

// mustFrees holds the free blocks of an order against what they have to be.
func mustFrees(t *testing.T, b *buddy.Buddy, order int, want ...int) {
	t.Helper()
	if got := b.Frees(order); !slices.Equal(got, want) {
		t.Fatalf("Frees(%d): %v, not %v", order, got, want)
	}
}

// mustAlloc allocates a block that has to be at a page.
func mustAlloc(t *testing.T, b *buddy.Buddy, order, cache, want int) {
	t.Helper()
	if page, e := b.Alloc(order, cache); page != want || e != api.OK {
		t.Fatalf("Alloc(%d, %d): %d, %d, not %d", order, cache, page, e, want)
	}
}

// mustRefuse holds an error of Alloc against the one that has to be.
func mustRefuse(t *testing.T, b *buddy.Buddy, order, cache int, want api.Errno) {
	t.Helper()
	if page, e := b.Alloc(order, cache); page != 0 || e != want {
		t.Fatalf("Alloc(%d, %d): %d, %d, not %d", order, cache, page, e, want)
	}
}

// mustFree holds what Free answers against what it has to be.
func mustFree(t *testing.T, b *buddy.Buddy, page int, want api.Errno) {
	t.Helper()
	if e := b.Free(page); e != want {
		t.Fatalf("Free(%d): %d, not %d", page, e, want)
	}
}

// made is whole pages.
func made(t *testing.T, many int) *buddy.Buddy {
	t.Helper()
	return newPair(t, many).b
}

// noise gives numbers without a pattern, the same ones each time.
type noise uint64

func (n *noise) next(below int) int {
	*n = *n*6364136223846793005 + 1442695040888963407
	return int(uint64(*n)>>33) % below
}

// shuffled is a list in another order.
func (n *noise) shuffled(l []int) []int {
	l = slices.Clone(l)
	for i := range l {
		j := i + n.next(len(l)-i)
		l[i], l[j] = l[j], l[i]
	}
	return l
}

// outside are numbers that are no pages of any table.
var outside = []int{math.MinInt, math.MinInt + 1, -1024, -2, -1, 1024, 1025, 2048, 1 << 32, math.MaxInt - 1, math.MaxInt}

func TestSizesThatMayNotBe(t *testing.T) { // P6.1, R1
	for _, many := range []int{math.MinInt, math.MinInt + 1, -1024, -2, -1, 0, 1025, 1026, 2048, 1 << 32, math.MaxInt - 1, math.MaxInt} {
		if b, e := buddy.New(many); b != nil || e != api.ErrArg {
			t.Errorf("New(%d): %v, %d", many, b, e)
		}
	}
}

func TestEverySize(t *testing.T) { // P6.1, P6.4
	for many := 1; many <= 1024; many++ {
		newPair(t, many).mustStand()
	}
}

func TestInitialPages(t *testing.T) { // P6.1
	for _, c := range []struct {
		many  int
		frees map[int][]int
	}{
		{1, map[int][]int{0: {0}}},
		{2, map[int][]int{1: {0}}},
		{3, map[int][]int{1: {0}, 0: {2}}},
		{7, map[int][]int{2: {0}, 1: {4}, 0: {6}}},
		{8, map[int][]int{3: {0}}},
		{9, map[int][]int{3: {0}, 0: {8}}},
		{1023, map[int][]int{9: {0}, 8: {512}, 7: {768}, 6: {896}, 5: {960}, 4: {992}, 3: {1008}, 2: {1016}, 1: {1020}, 0: {1022}}},
		{1024, map[int][]int{10: {0}}},
	} {
		b := made(t, c.many)
		for order := range 11 {
			mustFrees(t, b, order, c.frees[order]...)
		}
		if b.Left() != c.many || !b.Whole() || len(b.Pages()) != c.many {
			t.Errorf("New(%d): %d left, whole %v, %d pages", c.many, b.Left(), b.Whole(), len(b.Pages()))
		}
	}
}

func TestNoBuddy(t *testing.T) { // R1 and the chapter's first sentence on Promises
	var zero buddy.Buddy
	for _, b := range []*buddy.Buddy{nil, {}, new(buddy.Buddy), &zero} {
		for _, n := range append([]int{0, 1, 5, 10, 11}, outside...) {
			mustRefuse(t, b, n, 0, api.ErrNil)
			mustRefuse(t, b, 0, n, api.ErrNil)
			mustFree(t, b, n, api.ErrNil)
			mustFrees(t, b, n)
		}
		if b.Left() != 0 || b.Whole() || len(b.Pages()) != 0 {
			t.Errorf("%d left, whole %v, %v", b.Left(), b.Whole(), b.Pages())
		}
	}
}

func TestArgumentsOfAlloc(t *testing.T) { // P6.2, R1
	for _, many := range []int{1, 7, 8, 1024} {
		p := newPair(t, many)
		for _, c := range [][2]int{
			{-1, 0}, {11, 0}, {math.MinInt, 0}, {math.MaxInt, 0}, {64, 8}, {-64, 8},
			{0, -1}, {0, 9}, {0, math.MinInt}, {0, math.MaxInt}, {10, -1}, {10, 9},
			{-1, -1}, {-1, 9}, {11, -1}, {11, 9}, {math.MinInt, math.MaxInt}, {math.MaxInt, math.MinInt},
		} {
			mustRefuse(t, p.b, c[0], c[1], api.ErrArg)
			p.mustStand()
		}
	}
}

func TestArgumentsAreCheckedAheadOfRoom(t *testing.T) { // P6.2, 'Order of errors'
	b := made(t, 1)
	mustAlloc(t, b, 0, 0, 0)
	mustRefuse(t, b, 0, 9, api.ErrArg)
	mustRefuse(t, b, 0, -1, api.ErrArg)
	mustRefuse(t, b, -1, 0, api.ErrArg)
	mustRefuse(t, b, 11, 0, api.ErrArg)
	mustRefuse(t, b, 0, 0, api.ErrFull)
}

func TestEachOrderAndCache(t *testing.T) { // P6.2
	for order := 0; order <= 10; order++ {
		for cache := 0; cache <= 8; cache++ {
			p := newPair(t, 1024)
			mustAlloc(t, p.b, order, cache, 0)
			p.m.out[0] = out(order, cache)
			p.mustStand()
			if got := p.b.Pages()[0]; got != (api.Page{Kind: 2, Order: order, Cache: cache}) {
				t.Errorf("Alloc(%d, %d): %v", order, cache, got)
			}
		}
	}
}

func TestAllocOfThatOrder(t *testing.T) { // P6.2
	for order := range 10 {
		b := made(t, 1023) // one block of each order
		at := b.Frees(order)[0]
		mustAlloc(t, b, order, 3, at)
		mustFrees(t, b, order)
		for other := range 10 {
			if other != order && len(b.Frees(other)) != 1 {
				t.Errorf("Alloc of order %d: Frees(%d) %v", order, other, b.Frees(other))
			}
		}
	}
}

func TestAllocSplitsTheSmallest(t *testing.T) { // P6.2
	b := made(t, 1+2+8+64) // orders 6, 3, 1, 0 from page 0 on
	mustAlloc(t, b, 2, 1, 64)
	mustFrees(t, b, 2, 68)
	mustFrees(t, b, 3)
	mustFrees(t, b, 6, 0)
	mustAlloc(t, b, 2, 1, 68)
	mustAlloc(t, b, 2, 1, 0) // only one greater block is left
	mustFrees(t, b, 2, 4)
	mustFrees(t, b, 3, 8)
	mustFrees(t, b, 4, 16)
	mustFrees(t, b, 5, 32)
	mustFrees(t, b, 6)
	mustFrees(t, b, 1, 72)
	mustFrees(t, b, 0, 74)
}

func TestAllocTakesTheFirst(t *testing.T) { // P6.2
	b := made(t, 16)
	for page := range 16 {
		mustAlloc(t, b, 0, 1, page)
	}
	for _, page := range []int{13, 3, 9} {
		mustFree(t, b, page, api.OK)
	}
	mustFrees(t, b, 0, 3, 9, 13)
	mustAlloc(t, b, 0, 2, 3)
	mustAlloc(t, b, 0, 2, 9)
	mustFree(t, b, 4, api.OK)
	mustFree(t, b, 5, api.OK)
	mustFree(t, b, 10, api.OK)
	mustFree(t, b, 11, api.OK)
	mustFrees(t, b, 1, 4, 10)
	mustAlloc(t, b, 0, 2, 13) // a block of that order, though a greater one stands ahead
	mustAlloc(t, b, 0, 2, 4)  // the first one of the greater ones
	mustFrees(t, b, 0, 5)
	mustFrees(t, b, 1, 10)
}

func TestSplitsSeveralTimes(t *testing.T) { // P6.2
	for from := 0; from <= 10; from++ {
		for order := 0; order <= from; order++ {
			p := newPair(t, size(from))
			mustAlloc(t, p.b, order, 5, 0)
			p.m.out[0] = out(order, 5)
			p.mustStand()
			for half := range 11 {
				if half >= order && half < from {
					mustFrees(t, p.b, half, size(half))
				} else {
					mustFrees(t, p.b, half)
				}
			}
		}
	}
}

func TestOnlySmallerBlocks(t *testing.T) { // P6.2, P6.8
	p := newPair(t, 8)
	for range 8 {
		p.alloc(0, 4)
	}
	for _, page := range []int{0, 2, 4, 6} {
		p.free(page)
	}
	for order := 1; order <= 10; order++ { // as many pages are left as order 2 has, none of them side by side
		mustRefuse(t, p.b, order, 0, api.ErrFull)
		p.mustStand()
	}
	mustAlloc(t, p.b, 0, 0, 0)
	mustFree(t, p.b, 0, api.OK)
	q := newPair(t, 7)
	for order := 3; order <= 10; order++ {
		mustRefuse(t, q.b, order, 8, api.ErrFull)
		q.mustStand()
	}
	r := newPair(t, 4)
	for page := range 4 {
		mustAlloc(t, r.b, 0, 0, page)
	}
	mustFree(t, r.b, 1, api.OK)
	mustFree(t, r.b, 2, api.OK)
	mustRefuse(t, r.b, 1, 0, api.ErrFull) // side by side, but no buddies
	mustFrees(t, r.b, 0, 1, 2)
}

func TestNoneIsFree(t *testing.T) { // P6.2, P6.8
	for _, many := range []int{1, 2, 7, 8, 1023, 1024} {
		p := newPair(t, many)
		for range many {
			p.alloc(0, 1)
		}
		p.mustStand()
		for order := 0; order <= 10; order++ {
			mustRefuse(t, p.b, order, 1, api.ErrFull)
		}
		p.mustStand()
	}
	b := made(t, 1024)
	mustAlloc(t, b, 10, 8, 0)
	for order := 0; order <= 10; order++ {
		mustRefuse(t, b, order, 0, api.ErrFull)
	}
}

func TestFreeOfWhatIsNoBlock(t *testing.T) { // P6.3, R1
	p := newPair(t, 15)
	p.alloc(2, 3) // 8
	p.alloc(1, 0) // 12
	mustAllOthersFail := func() {
		for page := range 15 {
			if _, is := p.m.out[page]; !is {
				mustFree(t, p.b, page, api.ErrBlock)
			}
		}
		for _, page := range append([]int{15, 16}, outside...) {
			mustFree(t, p.b, page, api.ErrBlock)
		}
		p.mustStand()
	}
	mustAllOthersFail() // free heads, inside pages of free and of allocated blocks, none at all
	if p.m.out[8].Order != 2 || p.m.out[12].Order != 1 {
		t.Fatal(p.m.out)
	}
	p.free(8)
	mustAllOthersFail() // the one that was freed among them
	p.free(12)
	mustAllOthersFail()
}

func TestFreeOfTheFirstAndTheLastPage(t *testing.T) { // P6.3
	for _, many := range []int{1, 2, 7, 8, 1023, 1024} {
		p := newPair(t, many)
		mustFree(t, p.b, 0, api.ErrBlock)
		mustFree(t, p.b, many-1, api.ErrBlock)
		for range many {
			p.alloc(0, 2)
		}
		mustFree(t, p.b, many, api.ErrBlock)
		mustFree(t, p.b, -1, api.ErrBlock)
		p.mustStand()
		for _, page := range []int{0, many - 1} {
			p.free(page)
			p.mustStand()
			mustFree(t, p.b, page, api.ErrBlock)
		}
	}
}

func TestFreeTwice(t *testing.T) { // P6.3
	for order := 0; order <= 10; order++ {
		p := newPair(t, 1024)
		page, _ := p.alloc(order, 1)
		p.free(page)
		p.mustStand()
		mustFree(t, p.b, page, api.ErrBlock)
		p.mustStand()
	}
	p := newPair(t, 8)
	for range 4 {
		p.alloc(1, 1)
	}
	p.free(2)
	mustFree(t, p.b, 2, api.ErrBlock) // a free head
	p.free(0)
	mustFree(t, p.b, 2, api.ErrBlock) // an inside page of what both have become
	mustFree(t, p.b, 0, api.ErrBlock)
	p.mustStand()
}

func TestTheBuddyOfWhatIsFreed(t *testing.T) { // P6.3
	for _, first := range []bool{true, false} { // whether the first half is freed, or the second one
		freed, other := 4, 0
		if first {
			freed, other = 0, 4
		}
		four := func() pair {
			p := newPair(t, 8)
			p.alloc(2, 1)
			p.alloc(2, 1)
			return p
		}
		p := four() // free and of the same order
		p.free(other)
		p.free(freed)
		p.mustStand()
		mustFrees(t, p.b, 3, 0)

		p = four() // allocated
		p.free(freed)
		p.mustStand()
		mustFrees(t, p.b, 2, freed)

		p = four() // free, but split
		p.free(other)
		p.alloc(1, 2)
		p.free(freed)
		p.mustStand()
		mustFrees(t, p.b, 2, freed)
		mustFrees(t, p.b, 1, other+2)

		p = four() // split, and its first half is free
		p.free(other)
		p.alloc(1, 2)
		p.alloc(1, 2)
		p.free(other)
		p.free(freed)
		p.mustStand()
		mustFrees(t, p.b, 2, freed)
		mustFrees(t, p.b, 1, other)
	}
}

func TestABuddyBeyondTheLastPage(t *testing.T) { // P6.3
	for _, many := range []int{1, 3, 5, 6, 7, 12, 1023, 1024} {
		p := newPair(t, many)
		for range many {
			p.alloc(0, 1)
		}
		for page := range many {
			p.free(page)
			p.mustStand()
		}
		p = newPair(t, many)
		order := 10
		for size(order) > many {
			order--
		}
		page, _ := p.alloc(order, 1)
		p.free(page)
		p.mustStand()
	}
	b := made(t, 6)
	mustAlloc(t, b, 1, 1, 4) // its buddy starts at page 6, which is none
	mustFree(t, b, 4, api.OK)
	mustFrees(t, b, 1, 4)
	mustFrees(t, b, 2, 0)
}

func TestMergesThroughSeveralOrders(t *testing.T) { // P6.3
	for order := range 11 {
		p := newPair(t, 1024)
		page, _ := p.alloc(order, 1)
		p.free(page)
		p.mustStand()
		mustFrees(t, p.b, 10, 0)
	}
	p := newPair(t, 1024)
	for range 1024 {
		p.alloc(0, 7)
	}
	for page := range 1023 {
		p.free(page)
	}
	p.mustStand()
	for order := range 10 {
		mustFrees(t, p.b, order, 1024-2*size(order))
	}
	p.free(1023)
	p.mustStand()
	mustFrees(t, p.b, 10, 0)
	mustFrees(t, p.b, 11)
	p.alloc(10, 1)
	p.free(0)
	p.mustStand()
	mustFrees(t, p.b, 11)
}

func TestMergesStopAtWhatIsOut(t *testing.T) { // P6.3
	for stays := range 64 {
		p := newPair(t, 64)
		for range 64 {
			p.alloc(0, 7)
		}
		n := noise(stays)
		var all []int
		for page := range 64 {
			all = append(all, page)
		}
		for _, page := range n.shuffled(all) {
			if page != stays {
				p.free(page)
			}
		}
		p.mustStand()
		for order := range 6 {
			mustFrees(t, p.b, order, stays/size(order)*size(order)^size(order))
		}
	}
}

func TestFreesOfNoOrder(t *testing.T) { // P6.4, R1
	b := made(t, 1023)
	for _, order := range []int{math.MinInt, math.MinInt + 1, -64, -2, -1, 10, 11, 12, 62, 63, 64, 65, 1 << 32, math.MaxInt - 1, math.MaxInt} {
		mustFrees(t, b, order)
	}
}

func TestFreesIncrease(t *testing.T) { // P6.4
	b := made(t, 1024)
	for page := range 1024 {
		mustAlloc(t, b, 0, 1, page)
	}
	var want []int
	for page := 1022; page >= 0; page -= 2 {
		mustFree(t, b, page, api.OK)
		want = slices.Insert(want, 0, page)
		if page%100 == 0 {
			mustFrees(t, b, 0, want...)
		}
	}
	mustFrees(t, b, 0, want...)
	if b.Left() != 512 || b.Whole() {
		t.Errorf("%d left, whole %v", b.Left(), b.Whole())
	}
}

func TestWholeIsMoreThanFreePages(t *testing.T) { // P6.4
	b := made(t, 2)
	mustAlloc(t, b, 0, 0, 0)
	if b.Whole() || b.Left() != 1 {
		t.Error("one page is out", b.Left())
	}
	mustAlloc(t, b, 0, 0, 1)
	if b.Whole() || b.Left() != 0 {
		t.Error("both are out", b.Left())
	}
	mustFree(t, b, 0, api.OK)
	if b.Whole() || b.Left() != 1 {
		t.Error("one page is out", b.Left())
	}
	mustFree(t, b, 1, api.OK)
	if !b.Whole() || b.Left() != 2 {
		t.Error("none is out", b.Left())
	}
	mustAlloc(t, b, 1, 0, 0) // in a greatest block, of cache 0, but out
	if b.Whole() || b.Left() != 0 {
		t.Error("both are out", b.Left())
	}
}

func TestResultsAreNewMemory(t *testing.T) { // P6.5
	p := newPair(t, 100)
	for _, order := range []int{0, 3, 1, 0, 2} {
		p.alloc(order, order+1)
	}
	p.free(0)
	p.mustStand()
	first, again := p.b.Pages(), p.b.Pages()
	for at := range first[:cap(first)] {
		first[:cap(first)][at] = api.Page{Kind: -7, Order: at, Cache: 99}
	}
	if !slices.Equal(again, p.m.pages()) {
		t.Error("two tables share memory")
	}
	p.mustStand()
	for order := range 11 {
		want := freesIn(p.m.pages())[order]
		heads, others := p.b.Frees(order), p.b.Frees(order)
		for at := range heads[:cap(heads)] {
			heads[:cap(heads)][at] = -9
		}
		if !slices.Equal(others, want) {
			t.Error("two lists of heads share memory", others, want)
		}
		p.mustStand()
	}
}

func TestResultsStayAsTheyAre(t *testing.T) { // P6.5
	p := newPair(t, 64)
	p.alloc(2, 5)
	table, frees := p.b.Pages(), p.b.Frees(2)
	want, wantFrees := slices.Clone(table), slices.Clone(frees)
	p.alloc(2, 6)
	p.alloc(0, 6)
	p.free(0)
	p.alloc(5, 1)
	if !slices.Equal(table, want) || !slices.Equal(frees, wantFrees) {
		t.Error("results change with the pages", heads(table), frees)
	}
	p.mustStand()
}

func TestTwoBuddies(t *testing.T) { // R2
	p, q := newPair(t, 32), newPair(t, 32)
	p.alloc(3, 1)
	p.alloc(0, 2)
	q.mustStand()
	q.alloc(4, 3)
	p.mustStand()
	p.free(0)
	q.mustStand()
}

// call is an Alloc, or a Free of a page if the order is none.
type call struct{ order, page int }

func TestAllStatesOfFewPages(t *testing.T) { // P6.2, P6.3, P6.4, P6.6
	states := []int{0, 2, 5, 10, 26, 52, 130, 260, 677}
	for many := 1; many <= 8; many++ {
		paths := map[string][]call{key(newModel(many)): nil}
		queue := []string{key(newModel(many))}
		for len(queue) > 0 {
			path := paths[queue[0]]
			queue = queue[1:]
			for _, c := range callsOf(many) {
				p := replay(t, many, path)
				p.do(c)
				p.mustStand()
				if k := key(p.m); paths[k] == nil && k != key(newModel(many)) {
					paths[k] = append(slices.Clone(path), c)
					queue = append(queue, k)
				}
			}
		}
		// Any allocated blocks can be reached, so these are all that do not overlap.
		if len(paths) != states[many] {
			t.Errorf("%d pages: %d states, not %d", many, len(paths), states[many])
		}
	}
}

// callsOf are all calls that do not differ in their caches.
func callsOf(many int) []call {
	var l []call
	for order := range 5 {
		l = append(l, call{order, 0})
	}
	for page := -1; page <= many; page++ {
		l = append(l, call{-1, page})
	}
	return l
}

// do does a call.
func (p pair) do(c call) {
	p.t.Helper()
	if c.order >= 0 {
		p.alloc(c.order, 1)
	} else {
		p.free(c.page)
	}
}

// replay is new pages after calls.
func replay(t *testing.T, many int, path []call) pair {
	t.Helper()
	p := newPair(t, many)
	for _, c := range path {
		p.do(c)
	}
	return p
}

// key tells which blocks are allocated, one digit a page.
func key(m *model) string {
	k := make([]byte, m.many)
	for page := range k {
		k[page] = '-'
		if p, is := m.out[page]; is {
			k[page] = '0' + byte(p.Order)
		}
	}
	return string(k)
}

func TestManyCalls(t *testing.T) { // P6.2, P6.3, P6.4, P6.6, P6.8
	for seed, many := range []int{1, 2, 3, 7, 8, 31, 64, 100, 200, 1000, 1023, 1024} {
		n := noise(seed)
		p := newPair(t, many)
		full, freed := 0, 0
		for i := range 1500 {
			p.free(n.next(many+2) - 1)
			if n.next(9) < 5 {
				if _, e := p.alloc(n.next(1+n.next(12))-n.next(2), n.next(9)); e == api.ErrFull {
					full++
				}
			} else if page, is := p.m.outFrom(n.next(many)); is {
				p.free(page)
				freed++
			}
			if many < 300 || i%20 == 0 {
				p.mustStand()
			}
		}
		p.mustStand()
		if full == 0 || freed == 0 {
			t.Errorf("%d pages: %d times full, %d times freed", many, full, freed)
		}
	}
}

func TestSameAnswersEachTime(t *testing.T) { // R2
	n := noise(3)
	a, b := made(t, 300), made(t, 300)
	for range 2000 {
		if order := n.next(9) - 4; order >= 0 {
			page, e := a.Alloc(order, 2)
			if e == api.OK {
				mustAlloc(t, b, order, 2, page)
			} else {
				mustRefuse(t, b, order, 2, e)
			}
			b.Frees(order)
			b.Pages()
			b.Left()
			b.Whole()
			continue
		}
		page := n.next(300)
		mustFree(t, b, page, a.Free(page))
	}
	if !slices.Equal(a.Pages(), b.Pages()) {
		t.Error("different tables")
	}
}

func TestAllocatedBlocksDoNotOverlap(t *testing.T) { // P6.6
	n := noise(66)
	for range 30 {
		many := 1 + n.next(1024)
		b := made(t, many)
		owner := make([]int, many)
		for number := 1; number <= 300; number++ {
			order := n.next(5)
			page, e := b.Alloc(order, number%9)
			if e != api.OK {
				break
			}
			for at := page; at < page+size(order); at++ {
				if owner[at] != 0 {
					t.Fatalf("page %d is out twice", at)
				}
				owner[at] = number
			}
		}
		left := 0
		for _, o := range owner {
			if o == 0 {
				left++
			}
		}
		if b.Left() != left {
			t.Errorf("%d left, not %d", b.Left(), left)
		}
	}
}

func TestWholeInWhateverOrder(t *testing.T) { // P6.7
	var five []int
	for page := range 5 {
		five = append(five, page)
	}
	for _, order := range orders(five) {
		p := newPair(t, 7)
		var pages []int
		for _, o := range []int{1, 0, 0, 1, 0} {
			page, e := p.alloc(o, 3)
			if e != api.OK {
				t.Fatal(e)
			}
			pages = append(pages, page)
		}
		if p.b.Left() != 0 {
			t.Fatal("pages are left", p.b.Left())
		}
		for i, which := range order {
			p.free(pages[which])
			p.mustStand()
			if p.b.Whole() != (i == 4) {
				t.Fatalf("whole %v after %d Frees", p.b.Whole(), i+1)
			}
		}
	}
	n := noise(67)
	for range 40 {
		many := 1 + n.next(1024)
		b := made(t, many)
		whole := b.Pages()
		var pages []int
		for range 1 + n.next(600) {
			if page, e := b.Alloc(n.next(1+n.next(7)), n.next(9)); e == api.OK {
				pages = append(pages, page)
			}
		}
		for _, page := range n.shuffled(pages) {
			if b.Whole() {
				t.Fatal("whole though blocks are out")
			}
			mustFree(t, b, page, api.OK)
		}
		if !b.Whole() || b.Left() != many || !slices.Equal(b.Pages(), whole) {
			t.Fatalf("%d pages: whole %v, %d left, %v", many, b.Whole(), b.Left(), heads(b.Pages()))
		}
	}
}

// orders are all orders of some numbers.
func orders(l []int) [][]int {
	if len(l) == 0 {
		return [][]int{nil}
	}
	var all [][]int
	for i := range l {
		for _, o := range orders(slices.Concat(l[:i], l[i+1:])) {
			all = append(all, append([]int{l[i]}, o...))
		}
	}
	return all
}

func TestFullOnlyWithoutABlock(t *testing.T) { // P6.8
	n := noise(68)
	for range 60 {
		many := 1 + n.next(200)
		b := made(t, many)
		for range 200 {
			order := n.next(9)
			fits := false
			for o := order; o <= 10; o++ {
				fits = fits || len(b.Frees(o)) > 0
			}
			left := b.Left()
			page, e := b.Alloc(order, 1)
			if fits != (e == api.OK) || !fits && (e != api.ErrFull || page != 0) {
				t.Fatalf("order %d with a block %v: %d, %d", order, fits, page, e)
			}
			if left < size(order) && e != api.ErrFull {
				t.Fatalf("order %d with %d pages left: %d", order, left, e)
			}
			if fits && b.Left() != left-size(order) {
				t.Fatalf("order %d: %d left, after %d", order, b.Left(), left)
			}
			b.Free(n.next(many))
			b.Free(n.next(many))
		}
	}
}

func TestExamples(t *testing.T) { // the chapter's examples
	b := made(t, 7)
	mustFrees(t, b, 2, 0)
	mustFrees(t, b, 1, 4)
	mustFrees(t, b, 0, 6)
	mustAlloc(t, b, 0, 1, 6)
	mustAlloc(t, b, 0, 1, 4)
	mustAlloc(t, b, 0, 1, 5)
	mustFrees(t, b, 1)
	mustFree(t, b, 4, api.OK)
	mustFree(t, b, 5, api.OK)
	mustFrees(t, b, 1, 4)
	mustFree(t, b, 5, api.ErrBlock)
	b = made(t, 8)
	mustAlloc(t, b, 1, 0, 0)
	mustFrees(t, b, 2, 4)
	mustFrees(t, b, 1, 2)
}
