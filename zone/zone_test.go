package zone_test

import (
	"maps"
	"math"
	"slices"
	"testing"

	"wainscot/api"
	"wainscot/zone"
)

// The tests hold the package against the chapter said a second time, in another way: the model neither splits nor merges blocks. It knows which blocks are out, and which pages are near; free blocks are the greatest ones for which there is room beside these.

// model is a zone of the tests.
type model struct {
	many  int
	out   map[int]zone.Tag // by heads
	near  [][]int          // of each processor, the oldest page first
	taken []bool           // of each page, whether it is out or near
}

func newModel(cpus, many int) *model {
	return &model{many: many, out: map[int]zone.Tag{}, near: make([][]int, cpus), taken: make([]bool, many)}
}

// hasRoom tells whether a block of an order may be at a page, and all its pages are free.
func (m *model) hasRoom(page, order int) bool {
	return order <= 10 && page%size(order) == 0 && page+size(order) <= m.many && !slices.Contains(m.taken[page:page+size(order)], true)
}

// firstFree is the first free block of exactly that order: one that is no half of a greater one.
func (m *model) firstFree(order int) (int, bool) {
	for page := 0; page < m.many; page += size(order) {
		if m.hasRoom(page, order) && !m.hasRoom(page/size(order+1)*size(order+1), order+1) {
			return page, true
		}
	}
	return 0, false
}

// fitting is where a block of an order is cut off.
func (m *model) fitting(order int) (int, bool) {
	for o := order; o <= 10; o++ {
		if page, is := m.firstFree(o); is {
			return page, true
		}
	}
	return 0, false
}

// mark makes pages taken, or free.
func (m *model) mark(taken bool, page, order int) {
	for at := page; at < page+size(order); at++ {
		m.taken[at] = taken
	}
}

// alloc is what Alloc has to do.
func (m *model) alloc(cpu, order, cache int) (int, api.Errno) {
	if cpu < 0 || cpu > len(m.near)-1 {
		return 0, api.ErrRange
	}
	if order < 0 || order > 10 || cache < 0 || cache > 8 {
		return 0, api.ErrArg
	}
	if last := len(m.near[cpu]) - 1; order == 0 && last >= 0 {
		page := m.near[cpu][last]
		m.near[cpu] = m.near[cpu][:last]
		m.out[page] = zone.Tag{Head: page, Cache: cache}
		return page, api.OK
	}
	page, is := m.fitting(order)
	if !is {
		for other := range m.near {
			m.drain(other)
		}
		if page, is = m.fitting(order); !is {
			return 0, api.ErrFull
		}
	}
	m.out[page] = zone.Tag{Head: page, Order: order, Cache: cache}
	m.mark(true, page, order)
	return page, api.OK
}

// free is what Free has to do. The seventh page that is near takes four of them away.
func (m *model) free(cpu, page int) api.Errno {
	if cpu < 0 || cpu > len(m.near)-1 {
		return api.ErrRange
	}
	t, is := m.out[page]
	if !is {
		return api.ErrBlock
	}
	delete(m.out, page)
	if t.Order > 0 {
		m.mark(false, page, t.Order)
		return api.OK
	}
	m.near[cpu] = append(m.near[cpu], page)
	if len(m.near[cpu]) == 7 {
		for _, old := range m.near[cpu][:4] {
			m.mark(false, old, 0)
		}
		m.near[cpu] = m.near[cpu][4:]
	}
	return api.OK
}

// drain is what Drain has to do.
func (m *model) drain(cpu int) api.Errno {
	if cpu < 0 || cpu > len(m.near)-1 {
		return api.ErrRange
	}
	for _, page := range m.near[cpu] {
		m.mark(false, page, 0)
	}
	m.near[cpu] = nil
	return api.OK
}

// tags are what all pages that are out say.
func (m *model) tags() map[int]zone.Tag {
	all := map[int]zone.Tag{}
	for head, t := range m.out {
		for at := head; at < head+size(t.Order); at++ {
			all[at] = t
		}
	}
	return all
}

// nearCount is how many pages are near a processor, which need not exist.
func (m *model) nearCount(cpu int) int {
	if cpu < 0 || cpu > len(m.near)-1 {
		return 0
	}
	return len(m.near[cpu])
}

// outHeads are the heads of the blocks that are out, increasing.
func (m *model) outHeads() []int { return slices.Sorted(maps.Keys(m.out)) }

// size is how many pages a block has.
func size(order int) int {
	n := 1
	for range order {
		n *= 2
	}
	return n
}

// pair is a zone and its model, which are always called together.
type pair struct {
	t *testing.T
	z *zone.Zone
	m *model
}

// made is a new zone.
func made(t *testing.T, cpus, pages int) *zone.Zone {
	t.Helper()
	z, e := zone.New(cpus, pages)
	if z == nil || e != api.OK {
		t.Fatalf("New(%d, %d): %v, %d", cpus, pages, z, e)
	}
	return z
}

// newPair is a new zone and its model.
func newPair(t *testing.T, cpus, pages int) pair {
	t.Helper()
	return pair{t, made(t, cpus, pages), newModel(cpus, pages)}
}

// alloc allocates, and holds the result against the model.
func (p pair) alloc(cpu, order, cache int) (int, api.Errno) {
	p.t.Helper()
	page, e := p.z.Alloc(cpu, order, cache)
	want, wantE := p.m.alloc(cpu, order, cache)
	if page != want || e != wantE {
		p.t.Fatalf("Alloc(%d, %d, %d): %d, %d, not %d, %d; out %v, near %v", cpu, order, cache, page, e, want, wantE, p.m.out, p.m.near)
	}
	return page, e
}

// free frees, and holds the result against the model.
func (p pair) free(cpu, page int) api.Errno {
	p.t.Helper()
	e := p.z.Free(cpu, page)
	if want := p.m.free(cpu, page); e != want {
		p.t.Fatalf("Free(%d, %d): %d, not %d; out %v, near %v", cpu, page, e, want, p.m.out, p.m.near)
	}
	return e
}

// drain drains a processor, and holds the result against the model.
func (p pair) drain(cpu int) api.Errno {
	p.t.Helper()
	e := p.z.Drain(cpu)
	if want := p.m.drain(cpu); e != want {
		p.t.Fatalf("Drain(%d): %d, not %d", cpu, e, want)
	}
	return e
}

// mustStand holds everything that is told of a zone against the model, and against P8.6.
func (p pair) mustStand() {
	p.t.Helper()
	near := 0
	for cpu := -1; cpu <= len(p.m.near); cpu++ {
		mustNear(p.t, p.z, cpu, p.m.nearCount(cpu))
		near += p.m.nearCount(cpu)
	}
	tags := p.m.tags()
	for page := -1; page <= p.m.many; page++ {
		got, is := p.z.Tag(page)
		if want, wantIs := tags[page]; got != want || is != wantIs {
			p.t.Fatalf("Tag(%d): %v, %v, not %v, %v; out %v, near %v", page, got, is, want, wantIs, p.m.out, p.m.near)
		}
	}
	mustLeave(p.t, p.z, p.m.many-len(tags))
	if got, want := p.z.Whole(), len(tags)+near == 0; got != want {
		p.t.Fatalf("Whole: %v; out %v, near %v", got, p.m.out, p.m.near)
	}
}

// nearAt makes pages near a processor, in that order; all pages are out before that, and the others afterwards.
func nearAt(t *testing.T, cpus, many, cpu int, pages ...int) pair {
	t.Helper()
	p := newPair(t, cpus, many)
	p.fill(1)
	for _, page := range pages {
		p.free(cpu, page)
	}
	return p
}

// fill allocates all pages that are left, one by one.
func (p pair) fill(cache int) {
	p.t.Helper()
	for p.z.Left() > 0 {
		p.alloc(0, 0, cache)
	}
}

// mustAlloc allocates a block that has to be at a page.
func mustAlloc(t *testing.T, z *zone.Zone, cpu, order, cache, want int) {
	t.Helper()
	if page, e := z.Alloc(cpu, order, cache); page != want || e != api.OK {
		t.Fatalf("Alloc(%d, %d, %d): %d, %d, not %d", cpu, order, cache, page, e, want)
	}
}

// mustRefuse holds an error of Alloc against the one that has to be.
func mustRefuse(t *testing.T, z *zone.Zone, cpu, order, cache int, want api.Errno) {
	t.Helper()
	if page, e := z.Alloc(cpu, order, cache); page != 0 || e != want {
		t.Fatalf("Alloc(%d, %d, %d): %d, %d, not %d", cpu, order, cache, page, e, want)
	}
}

// mustFree holds what Free answers against what it has to be.
func mustFree(t *testing.T, z *zone.Zone, cpu, page int, want api.Errno) {
	t.Helper()
	if e := z.Free(cpu, page); e != want {
		t.Fatalf("Free(%d, %d): %d, not %d", cpu, page, e, want)
	}
}

// mustDrain holds what Drain answers against what it has to be.
func mustDrain(t *testing.T, z *zone.Zone, cpu int, want api.Errno) {
	t.Helper()
	if e := z.Drain(cpu); e != want {
		t.Fatalf("Drain(%d): %d, not %d", cpu, e, want)
	}
}

// mustNear holds the number of pages that are near a processor against what it has to be.
func mustNear(t *testing.T, z *zone.Zone, cpu, want int) {
	t.Helper()
	if got := z.Near(cpu); got != want {
		t.Fatalf("Near(%d): %d, not %d", cpu, got, want)
	}
}

// mustLeave holds the number of pages that are left against what it has to be.
func mustLeave(t *testing.T, z *zone.Zone, want int) {
	t.Helper()
	if got := z.Left(); got != want {
		t.Fatalf("Left: %d, not %d", got, want)
	}
}

// mustTag holds the tag of a page that is out against what it has to be.
func mustTag(t *testing.T, z *zone.Zone, page, head, order, cache int) {
	t.Helper()
	want := zone.Tag{Head: head, Order: order, Cache: cache}
	if got, is := z.Tag(page); got != want || !is {
		t.Fatalf("Tag(%d): %v, %v, not %v", page, got, is, want)
	}
}

// mustTagNone holds the tag of a page that is not out against nothing.
func mustTagNone(t *testing.T, z *zone.Zone, pages ...int) {
	t.Helper()
	for _, page := range pages {
		if got, is := z.Tag(page); got != (zone.Tag{}) || is {
			t.Fatalf("Tag(%d): %v, %v, not zero values", page, got, is)
		}
	}
}

// mustBeWhole holds Whole against what it has to report.
func mustBeWhole(t *testing.T, z *zone.Zone, want bool) {
	t.Helper()
	if got := z.Whole(); got != want {
		t.Fatalf("Whole: %v", got)
	}
}

// noise gives numbers without a pattern, the same ones each time.
type noise uint64

func (n *noise) next(below int) int {
	*n = *n*6364136223846793005 + 1442695040888963407
	return int(uint64(*n)>>33) % below
}

// shuffled is a list in another order.
func (n *noise) shuffled(l []int) []int {
	l = slices.Clone(l)
	for i := range l {
		j := i + n.next(len(l)-i)
		l[i], l[j] = l[j], l[i]
	}
	return l
}

// upTo are the numbers from one to another one.
func upTo(from, to int) []int {
	var l []int
	for i := from; i <= to; i++ {
		l = append(l, i)
	}
	return l
}

// outside are pages that no zone has.
func outside() []int {
	return []int{math.MinInt, math.MinInt + 1, math.MinInt32, -1025, -1024, -2, -1, 1024, 1025, 2048, math.MaxInt32, 1 << 32, 1<<32 + 1, math.MaxInt - 1, math.MaxInt}
}

// noCpus are processors that do not exist where there are so many.
func noCpus(cpus int) []int {
	return []int{math.MinInt, math.MinInt + 1, -8, -2, -1, cpus, cpus + 1, cpus + 8, 64, 1 << 32, math.MaxInt - 1, math.MaxInt}
}

func TestNew(t *testing.T) { // P8.1, R1
	ints := []int{math.MinInt, math.MinInt + 1, math.MinInt32, -1024, -8, -1, 0, 1, 2, 3, 7, 8, 9, 10, 64, 1023, 1024, 1025, 1026, 2048, math.MaxInt32, 1 << 32, 1<<32 + 1, math.MaxInt - 1, math.MaxInt}
	good := 0
	for _, cpus := range ints {
		for _, pages := range ints {
			z, e := zone.New(cpus, pages)
			if cpus >= 1 && cpus <= 8 && pages >= 1 && pages <= 1024 {
				good++
				if z == nil || e != api.OK {
					t.Errorf("New(%d, %d): %v, %d", cpus, pages, z, e)
				}
			} else if z != nil || e != api.ErrArg {
				t.Errorf("New(%d, %d): %v, %d, not nothing, ErrArg", cpus, pages, z, e)
			}
		}
	}
	if good != 5*10 {
		t.Error("numbers that are good:", good)
	}
}

func TestMaxNear(t *testing.T) { // the chapter's constant
	const six = zone.MaxNear // it is a constant, and none of a type of its own
	var n int = six
	if n != 6 {
		t.Error(n)
	}
}

func TestNewIsFree(t *testing.T) { // P8.1, P8.5
	for cpus := 1; cpus <= 8; cpus++ {
		for _, many := range []int{1, 2, 3, 7, 8, 1023, 1024} {
			p := newPair(t, cpus, many)
			p.mustStand()
			mustLeave(t, p.z, many)
			mustBeWhole(t, p.z, true)
			for cpu := range cpus {
				mustNear(t, p.z, cpu, 0)
				mustDrain(t, p.z, cpu, api.OK)
			}
			mustTagNone(t, p.z, append(outside(), upTo(0, 1023)...)...)
			for page := -1; page <= many; page++ {
				mustFree(t, p.z, cpus-1, page, api.ErrBlock)
			}
			p.mustStand()
		}
	}
}

func TestNewHasSoManyPages(t *testing.T) { // P8.1
	for many := 1; many <= 1024; many++ {
		z := made(t, 1, many)
		mustLeave(t, z, many)
		mustBeWhole(t, z, true)
		order := 0
		for order < 10 && size(order+1) <= many {
			order++
		}
		if many < 1024 {
			mustRefuse(t, z, 0, order+1, 0, api.ErrFull)
		}
		mustAlloc(t, z, 0, order, 2, 0) // the greatest block comes first
		mustLeave(t, z, many-size(order))
		mustTagNone(t, z, many)
	}
}

func TestNewHasSoManyProcessors(t *testing.T) { // P8.1, P8.2, P8.3, P8.4
	for cpus := 1; cpus <= 8; cpus++ {
		p := newPair(t, cpus, 100)
		for cpu := range cpus {
			page, _ := p.alloc(cpu, 0, 1)
			if cpu%2 == 0 {
				p.free(cpu, page)
			}
		}
		for _, cpu := range noCpus(cpus) {
			mustRefuse(t, p.z, cpu, 0, 1, api.ErrRange)
			mustRefuse(t, p.z, cpu, 10, 1, api.ErrRange) // no zone is asked for a block, so none is drained
			mustDrain(t, p.z, cpu, api.ErrRange)
			mustNear(t, p.z, cpu, 0)
			for page := -1; page <= 100; page++ {
				mustFree(t, p.z, cpu, page, api.ErrRange)
			}
		}
		p.mustStand()
	}
}

func TestNothing(t *testing.T) { // nil and zero zones
	var zero zone.Zone
	numbers := slices.Concat(outside(), upTo(-9, 12), []int{1022, 1023})
	for _, z := range []*zone.Zone{nil, {}, new(zone.Zone), &zero} {
		for range 2 {
			for _, a := range numbers {
				for _, b := range numbers {
					mustRefuse(t, z, a, b, 0, api.ErrNil) // that nothing is there comes first
					mustRefuse(t, z, a, 0, b, api.ErrNil)
					mustRefuse(t, z, 0, a, b, api.ErrNil)
					mustFree(t, z, a, b, api.ErrNil)
				}
				mustDrain(t, z, a, api.ErrNil)
				mustNear(t, z, a, 0)
				mustTagNone(t, z, a)
			}
			mustLeave(t, z, 0)
			mustBeWhole(t, z, false)
		}
	}
}

// wrongBlocks are an order and a cache each, of which at least one may not be.
func wrongBlocks() [][2]int {
	return [][2]int{
		{-1, 0}, {11, 0}, {-1, 8}, {11, 8}, {math.MinInt, 0}, {math.MaxInt, 0}, {64, 0}, {-64, 0}, {1 << 32, 0},
		{0, -1}, {0, 9}, {10, -1}, {10, 9}, {0, math.MinInt}, {0, math.MaxInt}, {0, 1 << 32},
		{-1, -1}, {-1, 9}, {11, -1}, {11, 9}, {math.MinInt, math.MaxInt}, {math.MaxInt, math.MinInt},
	}
}

func TestArgumentsOfAlloc(t *testing.T) { // P8.2, R1
	for _, many := range []int{1, 7, 8, 1024} {
		p := newPair(t, 3, many)
		for round := range 3 { // with all pages free, with one that is near, with none that is left
			for _, c := range wrongBlocks() {
				for cpu := range 3 {
					mustRefuse(t, p.z, cpu, c[0], c[1], api.ErrArg)
				}
				for _, cpu := range noCpus(3) {
					mustRefuse(t, p.z, cpu, c[0], c[1], api.ErrRange) // the processor comes first
				}
			}
			p.mustStand()
			if round == 0 {
				page, _ := p.alloc(1, 0, 3)
				p.free(1, page)
				mustNear(t, p.z, 1, 1)
			} else {
				p.fill(1)
			}
		}
	}
}

func TestArgumentsAreCheckedAheadOfRoom(t *testing.T) { // P8.2, 'Order of errors'
	p := nearAt(t, 2, 4, 1, 3)
	for _, c := range wrongBlocks() {
		mustRefuse(t, p.z, 0, c[0], c[1], api.ErrArg)
	}
	mustRefuse(t, p.z, -1, 1, 0, api.ErrRange)
	mustRefuse(t, p.z, 2, 1, 0, api.ErrRange)
	p.mustStand() // what is near was not drained by any of these
	mustNear(t, p.z, 1, 1)
	mustRefuse(t, p.z, 0, 1, 0, api.ErrFull)
}

func TestEachOrderAndCache(t *testing.T) { // P8.2, P8.5
	for order := 0; order <= 10; order++ {
		for cache := 0; cache <= 8; cache++ {
			p := newPair(t, 2, 1024)
			p.alloc(1, order, cache)
			p.mustStand()
			for page := range size(order) {
				mustTag(t, p.z, page, 0, order, cache)
			}
			mustTagNone(t, p.z, upTo(size(order), 1023)...)
			mustLeave(t, p.z, 1024-size(order))
			mustBeWhole(t, p.z, false)
			p.free(0, 0)
			p.mustStand()
			mustTagNone(t, p.z, 0, size(order)-1)
		}
	}
}

func TestAllocOfAPageThatIsNear(t *testing.T) { // P8.2
	for cpu := range 3 {
		p := nearAt(t, 3, 16, cpu, 3, 14, 0, 9)
		for i, page := range []int{9, 0, 14, 3} { // the last one first
			mustTagNone(t, p.z, page)
			got, e := p.alloc(cpu, 0, 5+i%2)
			if got != page || e != api.OK {
				t.Errorf("Alloc(%d, 0, %d): %d, %d, not %d", cpu, 5+i%2, got, e, page)
			}
			mustTag(t, p.z, page, page, 0, 5+i%2)
			mustNear(t, p.z, cpu, 3-i)
			mustLeave(t, p.z, 3-i)
			p.mustStand()
		}
		mustRefuse(t, p.z, cpu, 0, 1, api.ErrFull)
	}
}

func TestCacheOfAPageThatWasNear(t *testing.T) { // P8.2, P8.3
	for first := 0; first <= 8; first++ {
		for second := 0; second <= 8; second++ {
			z := made(t, 2, 8)
			mustAlloc(t, z, 1, 0, first, 0)
			mustTag(t, z, 0, 0, 0, first)
			mustFree(t, z, 1, 0, api.OK)
			mustTagNone(t, z, 0)
			mustAlloc(t, z, 1, 0, second, 0)
			mustTag(t, z, 0, 0, 0, second)
			mustFree(t, z, 0, 0, api.OK)
			mustDrain(t, z, 0, api.OK)
			mustAlloc(t, z, 1, 0, first, 0) // by way of the buddies
			mustTag(t, z, 0, 0, 0, first)
		}
	}
}

func TestAllocAsksForFreePagesAheadOfOthersNearOnes(t *testing.T) { // P8.2
	p := newPair(t, 2, 8)
	for range 3 {
		p.alloc(1, 0, 1)
	}
	p.free(1, 1)
	p.free(1, 0)
	for _, page := range []int{3, 4, 5, 6, 7} { // those that are near another processor are not taken
		mustAlloc(t, p.z, 0, 0, 2, page)
		p.m.alloc(0, 0, 2)
		mustNear(t, p.z, 1, 2)
		p.mustStand()
	}
	p.alloc(0, 0, 2) // now they are drained, and the first one of them is taken
	mustTag(t, p.z, 0, 0, 0, 2)
	mustTagNone(t, p.z, 1)
	mustNear(t, p.z, 0, 0)
	mustNear(t, p.z, 1, 0)
	mustLeave(t, p.z, 1)
	p.mustStand()
}

func TestGreaterBlocksAreNotNear(t *testing.T) { // P8.2, P8.3
	for order := 1; order <= 9; order++ {
		p := newPair(t, 2, 1024)
		single, _ := p.alloc(0, 0, 1)
		p.free(0, single)
		page, e := p.alloc(0, order, 2)
		if page != size(order) || e != api.OK {
			t.Errorf("Alloc(0, %d, 2): %d, %d", order, page, e)
		}
		mustNear(t, p.z, 0, 1) // which is for single pages
		p.free(0, page)
		mustNear(t, p.z, 0, 1)
		mustNear(t, p.z, 1, 0)
		mustLeave(t, p.z, 1024)
		p.mustStand()
		mustDrain(t, p.z, 0, api.OK)
		mustBeWhole(t, p.z, true) // it was merged at once
	}
}

func TestAllocDrainsWhatIsNear(t *testing.T) { // P8.2, P8.8
	for order := 1; order <= 10; order++ {
		for near := range 3 {
			for cpu := range 3 {
				p := newPair(t, 3, size(order))
				page, _ := p.alloc(near, 0, 1)
				p.free(near, page)
				mustLeave(t, p.z, size(order))
				got, e := p.alloc(cpu, order, 7) // there is none, until that page is drained
				if got != 0 || e != api.OK {
					t.Errorf("Alloc(%d, %d, 7): %d, %d", cpu, order, got, e)
				}
				mustNear(t, p.z, near, 0)
				mustTag(t, p.z, size(order)-1, 0, order, 7)
				mustLeave(t, p.z, 0)
				p.mustStand()
			}
		}
	}
}

func TestAllocDrainsAllProcessors(t *testing.T) { // P8.2
	p := newPair(t, 8, 48)
	p.fill(3)
	for page := range 48 { // near each processor six, of which no two are buddies
		p.free(page%8, page)
	}
	for cpu := range 8 {
		mustNear(t, p.z, cpu, 6)
	}
	mustLeave(t, p.z, 48)
	p.mustStand()
	p.alloc(3, 4, 1) // for which two processors would not do, though they have enough pages
	for cpu := range 8 {
		mustNear(t, p.z, cpu, 0)
	}
	mustLeave(t, p.z, 32)
	p.mustStand()
	p.alloc(0, 4, 1)
	p.alloc(0, 4, 1)
	mustLeave(t, p.z, 0)
	p.mustStand()
}

func TestAllocDrainsNobodyIfThereIsABlock(t *testing.T) { // P8.2
	for order := 0; order <= 9; order++ {
		p := newPair(t, 4, 1024)
		for cpu := range 4 {
			p.alloc(cpu, 0, 1)
		}
		for page := range 3 { // the last processor has none, so that it asks the buddies
			p.free(page, page)
		}
		p.alloc(3, order, 2)
		for cpu := range 3 {
			mustNear(t, p.z, cpu, 1)
		}
		p.mustStand()
	}
}

func TestFullEvenThen(t *testing.T) { // P8.2, P8.8
	for order := 1; order <= 10; order++ {
		p := nearAt(t, 3, 16, 1, 0, 2, 4, 6) // no two of them are buddies
		p.free(2, 8)
		mustRefuse(t, p.z, 0, order, 5, api.ErrFull)
		p.m.alloc(0, order, 5)
		p.mustStand()
		for cpu := range 3 { // the draining remains
			mustNear(t, p.z, cpu, 0)
		}
		mustLeave(t, p.z, 5)
		for _, page := range []int{0, 2, 4, 6, 8} { // and the pages are the buddies', so that the first one comes first
			mustAlloc(t, p.z, 1, 0, 6, page)
		}
		mustRefuse(t, p.z, 1, 0, 6, api.ErrFull)
	}
}

func TestFullWithoutNearPages(t *testing.T) { // P8.2, P8.8
	for _, many := range []int{1, 2, 3, 7, 8, 1023, 1024} {
		p := newPair(t, 2, many)
		p.fill(4)
		for order := 0; order <= 10; order++ {
			for cpu := range 2 {
				mustRefuse(t, p.z, cpu, order, 0, api.ErrFull)
			}
		}
		p.mustStand()
	}
	p := newPair(t, 1, 7) // there are pages, but no block
	for order := 3; order <= 10; order++ {
		mustRefuse(t, p.z, 0, order, 8, api.ErrFull)
	}
	p.mustStand()
	mustBeWhole(t, p.z, true)
}

func TestFreeOfWhatIsNoBlock(t *testing.T) { // P8.3, R1
	p := newPair(t, 2, 15)
	p.alloc(0, 2, 3)              // 8
	p.alloc(0, 1, 0)              // 12
	single, _ := p.alloc(0, 0, 2) // 14
	if !slices.Equal(p.m.outHeads(), []int{8, 12, 14}) {
		t.Fatal(p.m.out)
	}
	mustAllOthersFail := func() {
		for page := range 15 {
			for cpu := range 2 {
				if _, is := p.m.out[page]; !is {
					mustFree(t, p.z, cpu, page, api.ErrBlock)
				}
			}
		}
		for _, page := range append(outside(), 15, 16) {
			for cpu := range 2 {
				mustFree(t, p.z, cpu, page, api.ErrBlock)
			}
			for _, cpu := range noCpus(2) {
				mustFree(t, p.z, cpu, page, api.ErrRange)
			}
		}
		p.mustStand()
	}
	mustAllOthersFail() // free pages, inside pages of free and of allocated blocks, none at all
	p.free(1, single)
	mustAllOthersFail() // a near page
	p.free(0, 8)
	mustAllOthersFail() // one that was freed, and merged
	p.drain(1)
	mustAllOthersFail() // one that was drained
	p.free(0, 12)
	mustAllOthersFail()
	mustBeWhole(t, p.z, true)
}

func TestFreeOfTheFirstAndTheLastPage(t *testing.T) { // P8.3
	for _, many := range []int{1, 2, 3, 7, 8, 1023, 1024} {
		p := newPair(t, 2, many)
		mustFree(t, p.z, 0, 0, api.ErrBlock)
		mustFree(t, p.z, 0, many-1, api.ErrBlock)
		p.fill(2)
		mustFree(t, p.z, 0, -1, api.ErrBlock)
		mustFree(t, p.z, 0, many, api.ErrBlock)
		p.mustStand()
		for cpu, page := range []int{0, many - 1} {
			p.free(cpu, page)
			p.mustStand()
			mustFree(t, p.z, cpu, page, api.ErrBlock)
			mustFree(t, p.z, 1-cpu, page, api.ErrBlock)
			p.mustStand()
		}
	}
}

func TestFreeTwice(t *testing.T) { // P8.3
	for order := 0; order <= 10; order++ {
		for cpu := range 2 {
			p := newPair(t, 2, 1024)
			page, _ := p.alloc(0, order, 1)
			for inside := page + 1; inside < page+size(order); inside++ {
				mustFree(t, p.z, cpu, inside, api.ErrBlock)
			}
			p.free(cpu, page)
			p.mustStand()
			for again := range 2 {
				mustFree(t, p.z, again, page, api.ErrBlock)
			}
			p.mustStand()
			p.drain(cpu)
			mustFree(t, p.z, cpu, page, api.ErrBlock)
			p.mustStand()
			mustBeWhole(t, p.z, true)
		}
	}
}

func TestFreeNearAnotherProcessor(t *testing.T) { // P8.3
	for from := range 4 {
		for to := range 4 {
			p := newPair(t, 4, 32)
			page, _ := p.alloc(from, 0, 1)
			p.free(to, page) // it gets near the one that frees it
			for cpu := range 4 {
				want := 0
				if cpu == to {
					want = 1
				}
				mustNear(t, p.z, cpu, want)
			}
			p.mustStand()
			if got, _ := p.alloc(to, 0, 2); got != page {
				t.Errorf("Alloc(%d, 0, 2): %d, not %d", to, got, page)
			}
		}
	}
}

func TestSixPagesAreNear(t *testing.T) { // P8.3
	pages := []int{12, 3, 8, 13, 1, 6}
	for cpu := range 2 {
		p := nearAt(t, 2, 16, cpu)
		for i, page := range pages { // just to six
			p.free(cpu, page)
			mustNear(t, p.z, cpu, i+1)
			mustNear(t, p.z, 1-cpu, 0)
			mustLeave(t, p.z, i+1)
			mustTagNone(t, p.z, page)
			p.mustStand()
		}
		for i := 5; i >= 0; i-- {
			mustAlloc(t, p.z, cpu, 0, 2, pages[i])
		}
		mustRefuse(t, p.z, cpu, 0, 2, api.ErrFull)
	}
}

func TestTheSeventhPage(t *testing.T) { // P8.3
	for cpu := range 2 {
		p := nearAt(t, 2, 16, cpu, 12, 3, 8, 13, 1, 6)
		p.free(cpu, 10) // one beyond: four leave, three stay
		mustNear(t, p.z, cpu, 3)
		mustNear(t, p.z, 1-cpu, 0)
		mustLeave(t, p.z, 7)
		mustTagNone(t, p.z, 12, 3, 8, 13, 1, 6, 10)
		mustFree(t, p.z, cpu, 12, api.ErrBlock)
		p.mustStand()

		// The older ones are free: the other processor gets them, merged as they are.
		mustAlloc(t, p.z, 1-cpu, 1, 7, 12)
		p.m.alloc(1-cpu, 1, 7)
		for _, page := range []int{3, 8} {
			mustAlloc(t, p.z, 1-cpu, 0, 7, page)
			p.m.alloc(1-cpu, 0, 7)
		}
		mustNear(t, p.z, cpu, 3)
		p.mustStand()

		// The others are near, the last one first.
		for _, page := range []int{10, 6, 1} {
			mustAlloc(t, p.z, cpu, 0, 7, page)
		}
		mustLeave(t, p.z, 0)
		mustRefuse(t, p.z, 1-cpu, 0, 7, api.ErrFull)
	}
}

func TestSeveralTimesBeyondSix(t *testing.T) { // P8.3
	p := newPair(t, 3, 300)
	p.fill(2)
	want := 0
	for i := range 300 {
		page := i * 97 % 300 // in no increasing order
		p.free(1, page)
		if want++; want == 7 {
			want = 3
		}
		mustNear(t, p.z, 1, want)
		mustLeave(t, p.z, i+1)
		p.mustStand()
	}
	p.drain(1)
	mustBeWhole(t, p.z, true)
}

func TestCapOfEachProcessor(t *testing.T) { // P8.3
	p := newPair(t, 8, 64)
	p.fill(1)
	for page := range 48 {
		p.free(page%8, page)
	}
	for cpu := range 8 { // what is near the others does not count
		mustNear(t, p.z, cpu, 6)
	}
	mustLeave(t, p.z, 48)
	for cpu := range 8 {
		p.free(cpu, 48+cpu)
		mustNear(t, p.z, cpu, 3)
		p.mustStand()
	}
}

func TestDrain(t *testing.T) { // P8.4
	for near := 0; near <= 6; near++ {
		for cpu := range 3 {
			pages := []int{5, 4, 0, 15, 9, 7}[:near]
			p := nearAt(t, 3, 16, cpu, pages...)
			for other := range 3 { // one without near pages has none to give
				if other != cpu {
					p.drain(other)
					mustNear(t, p.z, cpu, near)
					p.mustStand()
				}
			}
			for range 2 { // the second time nothing is near
				mustDrain(t, p.z, cpu, api.OK)
				p.m.drain(cpu)
				mustNear(t, p.z, cpu, 0)
				mustLeave(t, p.z, near)
				p.mustStand()
			}
			for range near { // the pages are free: the buddies give them out
				p.alloc(cpu, 0, 2)
			}
			mustLeave(t, p.z, 0)
			p.mustStand()
		}
	}
}

func TestDrainMerges(t *testing.T) { // P8.4, P8.7
	for cpu := range 2 {
		p := newPair(t, 2, 6)
		p.fill(1)
		for page := range 6 {
			p.free(cpu, page)
		}
		mustLeave(t, p.z, 6)
		mustBeWhole(t, p.z, false) // all pages are left, but none is free
		mustDrain(t, p.z, 1-cpu, api.OK)
		mustBeWhole(t, p.z, false)
		p.drain(cpu)
		p.mustStand()
		mustBeWhole(t, p.z, true)
		mustAlloc(t, p.z, 0, 2, 1, 0)
		mustAlloc(t, p.z, 0, 1, 1, 4)
	}
}

func TestDrainOfOneProcessor(t *testing.T) { // P8.4
	p := newPair(t, 8, 64)
	p.fill(5)
	for page := range 40 {
		p.free(page%8, page)
	}
	for i, cpu := range []int{4, 0, 7, 2, 1, 6, 3, 5} {
		for _, no := range noCpus(8) {
			mustDrain(t, p.z, no, api.ErrRange)
		}
		p.mustStand()
		mustNear(t, p.z, cpu, 5)
		p.drain(cpu)
		mustNear(t, p.z, cpu, 0)
		near := 0
		for other := range 8 {
			near += p.z.Near(other)
		}
		if near != 35-5*i {
			t.Errorf("%d processors drained: %d pages are near", i+1, near)
		}
		mustLeave(t, p.z, 40)
		p.mustStand()
	}
}

func TestLeftCountsNearPages(t *testing.T) { // P8.5
	p := newPair(t, 2, 10)
	mustLeave(t, p.z, 10)
	p.alloc(0, 2, 1)
	mustLeave(t, p.z, 6)
	a, _ := p.alloc(0, 0, 1)
	b, _ := p.alloc(0, 0, 1)
	mustLeave(t, p.z, 4)
	p.free(0, a)
	p.free(1, b)
	mustLeave(t, p.z, 6) // two of which are near
	mustNear(t, p.z, 0, 1)
	mustNear(t, p.z, 1, 1)
	p.drain(0)
	mustLeave(t, p.z, 6)
	p.alloc(1, 0, 1)
	mustLeave(t, p.z, 5)
	p.mustStand()
}

func TestWhole(t *testing.T) { // P8.5
	z := made(t, 2, 4)
	mustBeWhole(t, z, true)
	mustAlloc(t, z, 0, 2, 0, 0) // a greatest block, of cache 0, but out
	mustBeWhole(t, z, false)
	mustFree(t, z, 0, 0, api.OK)
	mustBeWhole(t, z, true)
	mustAlloc(t, z, 0, 0, 0, 0)
	mustBeWhole(t, z, false)
	mustFree(t, z, 1, 0, api.OK)
	mustBeWhole(t, z, false) // it is near
	mustLeave(t, z, 4)
	mustDrain(t, z, 0, api.OK)
	mustBeWhole(t, z, false)
	mustDrain(t, z, 1, api.OK)
	mustBeWhole(t, z, true)
	one := made(t, 1, 1)
	mustAlloc(t, one, 0, 0, 0, 0)
	mustFree(t, one, 0, 0, api.OK)
	mustBeWhole(t, one, false) // a single page is no exception
	mustDrain(t, one, 0, api.OK)
	mustBeWhole(t, one, true)
}

func TestTag(t *testing.T) { // P8.5
	p := newPair(t, 2, 31)
	p.alloc(0, 3, 4) // 16
	p.alloc(1, 2, 0) // 24
	p.alloc(0, 0, 8) // 30
	p.alloc(0, 0, 1) // 28
	for page := 16; page < 24; page++ {
		mustTag(t, p.z, page, 16, 3, 4)
	}
	for page := 24; page < 28; page++ {
		mustTag(t, p.z, page, 24, 2, 0)
	}
	mustTag(t, p.z, 30, 30, 0, 8)
	mustTag(t, p.z, 28, 28, 0, 1)
	mustTagNone(t, p.z, append(outside(), append(upTo(0, 15), 29, 31, 32)...)...)
	p.free(1, 30)
	mustTagNone(t, p.z, 30) // near
	p.free(0, 16)
	mustTagNone(t, p.z, upTo(16, 23)...)
	mustTag(t, p.z, 27, 24, 2, 0)
	p.alloc(0, 1, 6) // 0, as it is the first one of what was merged
	p.mustStand()
	z := made(t, 1, 8) // a tag of zeros is one, too
	mustAlloc(t, z, 0, 0, 0, 0)
	mustTag(t, z, 0, 0, 0, 0)
	mustTagNone(t, z, 1)
}

// call is one of a zone.
type call struct{ what, cpu, number int }

const (
	allocs = iota // number is an order
	frees         // number is a page
	drains
)

// do does a call.
func (p pair) do(c call) {
	p.t.Helper()
	switch c.what {
	case allocs:
		p.alloc(c.cpu, c.number, 1)
	case frees:
		p.free(c.cpu, c.number)
	case drains:
		p.drain(c.cpu)
	}
}

// callsOf are all calls that do not differ in their caches.
func callsOf(cpus, many int) []call {
	var l []call
	for cpu := -1; cpu <= cpus; cpu++ {
		for order := range 4 {
			l = append(l, call{allocs, cpu, order})
		}
		for page := -1; page <= many; page++ {
			l = append(l, call{frees, cpu, page})
		}
		l = append(l, call{drains, cpu, 0})
	}
	return l
}

// key tells a state: the blocks that are out, and what is near each processor.
func key(m *model) string {
	var k []byte
	for _, head := range m.outHeads() {
		k = append(k, 'a'+byte(m.out[head].Order), '0'+byte(head))
	}
	for _, l := range m.near {
		k = append(k, '/')
		for _, page := range l {
			k = append(k, '0'+byte(page))
		}
	}
	return string(k)
}

// replay is a new zone after calls.
func replay(t *testing.T, cpus, many int, path []call) pair {
	t.Helper()
	p := newPair(t, cpus, many)
	for _, c := range path {
		p.do(c)
	}
	return p
}

func TestAllStatesOfFewPages(t *testing.T) { // P8.2, P8.3, P8.4, P8.5
	for _, c := range [][2]int{{1, 1}, {1, 2}, {1, 3}, {1, 4}, {1, 5}, {2, 1}, {2, 2}, {2, 3}, {2, 4}, {3, 1}, {3, 2}, {3, 3}} {
		cpus, many := c[0], c[1]
		start := key(newModel(cpus, many))
		paths := map[string][]call{start: {}}
		queue := []string{start}
		for len(queue) > 0 {
			path := paths[queue[0]]
			queue = queue[1:]
			for _, c := range callsOf(cpus, many) {
				p := replay(t, cpus, many, path)
				p.do(c)
				p.mustStand()
				if k := key(p.m); paths[k] == nil {
					paths[k] = append(slices.Clone(path), c)
					queue = append(queue, k)
				}
			}
		}
		// Any blocks that do not overlap may be out, and any of the other pages near, in any order.
		if want := statesOf(cpus, many, 0, 0); len(paths) != want {
			t.Errorf("%d processors, %d pages: %d states, not %d", cpus, many, len(paths), want)
		}
	}
}

// statesOf is how many states there are, with blocks out of the pages from at on, and lists that have so many pages already.
func statesOf(cpus, many, at, near int) int {
	if at == many {
		return 1
	}
	all := statesOf(cpus, many, at+1, near)                   // the page is free
	all += (near + cpus) * statesOf(cpus, many, at+1, near+1) // or near, at any place of any list
	for order := 0; at%size(order) == 0 && at+size(order) <= many; order++ {
		all += statesOf(cpus, many, at+size(order), near) // or out
	}
	return all
}

func TestAllCallsAroundSix(t *testing.T) { // P8.2, P8.3, P8.4
	for near := 4; near <= 6; near++ {
		for free := range 3 { // of the blocks of eight pages, some are drained, so that they are free
			start := func() pair {
				p := newPair(t, 2, 16)
				p.fill(3)
				for page := range 8 * free {
					p.free(1, page)
				}
				p.drain(1)
				for page := range 5 {
					p.alloc(1, 0, page)
				}
				for _, page := range p.m.outHeads()[:min(near, len(p.m.out))] {
					p.free(0, page)
				}
				return p
			}
			for _, first := range callsOf(2, 16) {
				for _, second := range callsOf(2, 16) {
					p := start()
					p.do(first)
					p.do(second)
					p.mustStand()
				}
			}
		}
	}
}

// some does a call without a pattern: mostly allocations, of which half are of single pages, and frees of blocks that are out.
func (p pair) some(n *noise) (what int, e api.Errno) {
	p.t.Helper()
	cpu := n.next(len(p.m.near))
	if n.next(20) == 0 {
		cpu = n.next(len(p.m.near)+2) - 1
	}
	switch n.next(16) {
	case 0:
		return drains, p.drain(cpu)
	case 1:
		return frees, p.free(cpu, n.next(p.m.many+2)-1)
	case 2, 3, 4, 5, 6, 7:
		if heads := p.m.outHeads(); len(heads) > 0 {
			return frees, p.free(cpu, heads[n.next(len(heads))])
		}
	}
	order := 0
	if n.next(2) == 0 {
		order = n.next(1+n.next(12)) - n.next(2)
	}
	_, e = p.alloc(cpu, order, n.next(9))
	return allocs, e
}

func TestManyCalls(t *testing.T) { // P8.2, P8.3, P8.4, P8.5, P8.6
	counts := map[call]int{} // how often a call had an error
	for seed, many := range []int{1, 2, 3, 7, 8, 31, 64, 100, 200, 1023, 1024} {
		for cpus := 1; cpus <= 8; cpus += 1 + seed%3 {
			n := noise(100*seed + cpus)
			p := newPair(t, cpus, many)
			for i := range 1200 {
				what, e := p.some(&n)
				counts[call{what: what, number: int(e)}]++
				if many < 300 || i%20 == 0 {
					p.mustStand()
				}
			}
			p.mustStand()
		}
	}
	for what, errors := range [][]api.Errno{
		allocs: {api.OK, api.ErrRange, api.ErrArg, api.ErrFull},
		frees:  {api.OK, api.ErrRange, api.ErrBlock},
		drains: {api.OK, api.ErrRange},
	} {
		for _, e := range errors {
			if counts[call{what: what, number: int(e)}] < 50 {
				t.Errorf("call %d, error %d: too seldom; %v", what, e, counts)
			}
		}
	}
}

func TestAllocatedBlocksDoNotOverlap(t *testing.T) { // P8.6
	n := noise(86)
	for range 60 {
		cpus, many := 1+n.next(8), 1+n.next(400)
		z := made(t, cpus, many)
		owner := make([]int, many) // by page, the number of the block that is out
		blocks := map[int][2]int{} // by number, a page and an order
		for number := 1; number <= 400; number++ {
			order := n.next(1 + n.next(6))
			if page, e := z.Alloc(n.next(cpus), order, number%9); e == api.OK {
				blocks[number] = [2]int{page, order}
				for at := page; at < page+size(order); at++ {
					if owner[at] != 0 {
						t.Fatalf("page %d is out twice", at)
					}
					owner[at] = number
					mustTag(t, z, at, page, order, number%9)
				}
			}
			if b, is := blocks[1+n.next(number)]; is {
				gone := owner[b[0]]
				mustFree(t, z, n.next(cpus), b[0], api.OK)
				delete(blocks, gone)
				for at := b[0]; at < b[0]+size(b[1]); at++ {
					owner[at] = 0
				}
			}
			mustLeave(t, z, many-countOut(owner))
		}
		for page, number := range owner {
			if number == 0 {
				mustTagNone(t, z, page)
			}
		}
	}
}

// countOut is how many pages have an owner.
func countOut(owner []int) int {
	out := 0
	for _, o := range owner {
		if o != 0 {
			out++
		}
	}
	return out
}

// orders are all orders of some numbers.
func orders(l []int) [][]int {
	if len(l) == 0 {
		return [][]int{nil}
	}
	var all [][]int
	for i := range l {
		for _, o := range orders(slices.Concat(l[:i], l[i+1:])) {
			all = append(all, append([]int{l[i]}, o...))
		}
	}
	return all
}

func TestWholeInWhateverOrder(t *testing.T) { // P8.7
	for _, order := range orders(upTo(0, 4)) {
		for start := range 3 {
			p := newPair(t, 3, 7)
			var pages []int
			for _, o := range []int{1, 0, 0, 1, 0} {
				page, e := p.alloc(start, o, 3)
				if e != api.OK {
					t.Fatal(e)
				}
				pages = append(pages, page)
			}
			mustLeave(t, p.z, 0)
			for i, which := range order {
				p.free((start+i)%3, pages[which])
				p.mustStand()
				mustBeWhole(t, p.z, false)
			}
			mustLeave(t, p.z, 7)
			for i := range 3 {
				p.drain((start + i) % 3)
				p.mustStand()
			}
			mustBeWhole(t, p.z, true)
		}
	}
}

func TestWholeWhenAllIsFreed(t *testing.T) { // P8.7
	n := noise(87)
	for range 120 {
		cpus, many := 1+n.next(8), 1+n.next(1024)
		p := newPair(t, cpus, many)
		for range 1 + n.next(600) {
			p.some(&n)
		}
		for _, page := range n.shuffled(p.m.outHeads()) {
			mustBeWhole(t, p.z, false)
			p.free(n.next(cpus), page)
		}
		mustLeave(t, p.z, many)
		for _, cpu := range n.shuffled(upTo(0, cpus-1)) {
			p.drain(cpu)
		}
		mustBeWhole(t, p.z, true)
		p.mustStand()
		again := made(t, cpus, many) // so it gives the same blocks as a new one
		for range 40 {
			order := n.next(8)
			page, e := again.Alloc(0, order, 1)
			if e == api.OK {
				mustAlloc(t, p.z, 0, order, 1, page)
			} else {
				mustRefuse(t, p.z, 0, order, 1, e)
			}
		}
	}
}

// runs tells whether there is a block of an order of which no page is out.
func runs(z *zone.Zone, many, order int) bool {
	for head := 0; head+size(order) <= many; head += size(order) {
		free := true
		for page := head; page < head+size(order); page++ {
			_, is := z.Tag(page)
			free = free && !is
		}
		if free {
			return true
		}
	}
	return false
}

func TestFullOnlyWithoutABlock(t *testing.T) { // P8.8
	n := noise(88)
	full, drained := 0, 0
	for range 80 {
		cpus, many := 1+n.next(8), 1+n.next(200)
		z := made(t, cpus, many)
		for range 200 {
			order := n.next(1 + n.next(9))
			fits := runs(z, many, order) // near pages would be drained
			near := z.Near(0)
			page, e := z.Alloc(n.next(cpus), order, 1)
			if fits != (e == api.OK) || !fits && (e != api.ErrFull || page != 0) {
				t.Fatalf("order %d with a block %v: %d, %d", order, fits, page, e)
			}
			if e == api.ErrFull {
				full++
				for cpu := range cpus {
					mustNear(t, z, cpu, 0)
				}
				if near > 0 {
					drained++
				}
			}
			z.Free(n.next(cpus), n.next(many))
			z.Free(n.next(cpus), n.next(many))
		}
	}
	if full == 0 || drained == 0 {
		t.Errorf("%d times full, %d times with near pages", full, drained)
	}
}

func TestErrorsChangeNothing(t *testing.T) { // P8.2, P8.3, P8.4
	for seed, many := range []int{1, 3, 8, 30, 100} {
		n := noise(seed)
		p, q := newPair(t, 3, many), newPair(t, 3, many)
		for range 300 {
			for _, cpu := range noCpus(3) { // p is asked for what can't be, q is not
				mustRefuse(t, p.z, cpu, n.next(14)-1, n.next(11)-1, api.ErrRange)
				mustFree(t, p.z, cpu, n.next(many), api.ErrRange)
				mustDrain(t, p.z, cpu, api.ErrRange)
			}
			for _, c := range wrongBlocks() {
				mustRefuse(t, p.z, n.next(3), c[0], c[1], api.ErrArg)
			}
			for page := -1; page <= many; page++ {
				if _, is := p.m.out[page]; !is {
					mustFree(t, p.z, n.next(3), page, api.ErrBlock)
				}
			}
			same := n
			p.some(&n)
			q.some(&same)
			p.mustStand()
			q.mustStand()
		}
	}
}

func TestAskingChangesNothing(t *testing.T) { // R2
	n := noise(5)
	a, b := newPair(t, 3, 60), newPair(t, 3, 60)
	for range 1500 {
		same := n
		a.some(&n)
		b.some(&same)
		a.z.Left()
		a.z.Whole()
		a.z.Near(n.next(5) - 1)
		a.z.Tag(n.next(62) - 1)
	}
	a.mustStand()
	b.mustStand()
}

func TestTwoZones(t *testing.T) { // R2
	p, q := newPair(t, 2, 32), newPair(t, 2, 32)
	p.alloc(0, 3, 1)
	page, _ := p.alloc(0, 0, 2)
	q.mustStand()
	p.free(1, page)
	q.mustStand()
	q.alloc(0, 4, 3)
	p.mustStand()
	q.alloc(1, 0, 1)
	p.drain(1)
	q.mustStand()
	p.mustStand()
}

func TestExamples(t *testing.T) { // the chapter's examples
	z := made(t, 2, 8)
	mustAlloc(t, z, 0, 0, 3, 0)
	mustTag(t, z, 0, 0, 0, 3)
	mustLeave(t, z, 7)
	mustFree(t, z, 1, 0, api.OK)
	mustNear(t, z, 1, 1)
	mustLeave(t, z, 8)
	mustBeWhole(t, z, false)
	mustAlloc(t, z, 0, 3, 1, 0)
	mustNear(t, z, 1, 0)
	mustTag(t, z, 5, 0, 3, 1)
	mustFree(t, z, 0, 5, api.ErrBlock)
	mustFree(t, z, 0, 0, api.OK)
	mustBeWhole(t, z, true)
}
