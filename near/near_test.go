package near_test

import (
	"cmp"
	"math"
	"slices"
	"testing"

	"wainscot/api"
	"wainscot/near"
)

// The tests hold the package against the chapter said a second time, in another way: the model has no lists, but knows of each page near which processor it is, and at which turn it was put there.

// place is where a page is, and since when.
type place struct{ cpu, turn int }

// model is near pages of the tests.
type model struct {
	cpus, limit, turn int
	places            map[int]place
}

func newModel(cpus, limit int) *model {
	return &model{cpus: cpus, limit: limit, places: map[int]place{}}
}

// list is what is near a processor, the oldest page first.
func (m *model) list(cpu int) []int {
	var l []int
	for page, p := range m.places {
		if p.cpu == cpu {
			l = append(l, page)
		}
	}
	slices.SortFunc(l, func(a, b int) int { return cmp.Compare(m.places[a].turn, m.places[b].turn) })
	return l
}

// has tells whether a page is near some processor.
func (m *model) has(page int) bool {
	_, is := m.places[page]
	return is
}

// put is what Put has to do. A page leaves if there are fewer pages ahead of it than half of all.
func (m *model) put(cpu, page int) (out []int, e api.Errno) {
	if cpu < 0 || cpu > m.cpus-1 || page < 0 || page > 1023 {
		return nil, api.ErrRange
	}
	if m.has(page) {
		return nil, api.ErrBlock
	}
	m.turn++
	m.places[page] = place{cpu, m.turn}
	l := m.list(cpu)
	if len(l) <= m.limit {
		return nil, api.OK
	}
	for ahead, page := range l {
		if 2*ahead < len(l) {
			out = append(out, page)
			delete(m.places, page)
		}
	}
	return out, api.OK
}

// take is what Take has to do.
func (m *model) take(cpu int) (int, bool) {
	l := m.list(cpu)
	if len(l) == 0 {
		return 0, false
	}
	last := l[len(l)-1]
	delete(m.places, last)
	return last, true
}

// drain is what Drain has to do.
func (m *model) drain(cpu int) []int {
	l := m.list(cpu)
	for _, page := range l {
		delete(m.places, page)
	}
	return l
}

// pair is near pages and their model, which are always called together.
type pair struct {
	t *testing.T
	n *near.Near
	m *model
}

// made is empty lists.
func made(t *testing.T, cpus, limit int) *near.Near {
	t.Helper()
	n, e := near.New(cpus, limit)
	if n == nil || e != api.OK {
		t.Fatalf("New(%d, %d): %v, %d", cpus, limit, n, e)
	}
	return n
}

// newPair is empty lists and their model.
func newPair(t *testing.T, cpus, limit int) pair {
	t.Helper()
	return pair{t, made(t, cpus, limit), newModel(cpus, limit)}
}

// spoil writes all over the memory of a result, its unused capacity included. Nothing may come of that.
func spoil(l []int, with int) {
	all := l[:cap(l)]
	for at := range all {
		all[at] = with
	}
}

// put puts a page, and holds the result against the model.
func (p pair) put(cpu, page int) ([]int, api.Errno) {
	p.t.Helper()
	out, e := p.n.Put(cpu, page)
	want, wantE := p.m.put(cpu, page)
	if !slices.Equal(out, want) || e != wantE {
		p.t.Fatalf("Put(%d, %d): %v, %d, not %v, %d", cpu, page, out, e, want, wantE)
	}
	spoil(out, -9)
	return want, e
}

// take takes a page, and holds the result against the model.
func (p pair) take(cpu int) (int, bool) {
	p.t.Helper()
	page, is := p.n.Take(cpu)
	if want, wantIs := p.m.take(cpu); page != want || is != wantIs {
		p.t.Fatalf("Take(%d): %d, %v, not %d, %v", cpu, page, is, want, wantIs)
	}
	return page, is
}

// drain drains a processor, and holds the result against the model.
func (p pair) drain(cpu int) []int {
	p.t.Helper()
	got := p.n.Drain(cpu)
	want := p.m.drain(cpu)
	if !slices.Equal(got, want) {
		p.t.Fatalf("Drain(%d): %v, not %v", cpu, got, want)
	}
	spoil(got, -9)
	return want
}

// mustStand holds everything that is told of lists against the model, and against P7.5; Has is asked of pages.
func (p pair) mustStand(pages ...int) {
	p.t.Helper()
	for cpu := -1; cpu <= p.m.cpus; cpu++ {
		want := p.m.list(cpu)
		for range 2 {
			got := p.n.List(cpu)
			if !slices.Equal(got, want) || len(got) > p.m.limit {
				p.t.Fatalf("List(%d): %v, not %v; the cap is %d", cpu, got, want, p.m.limit)
			}
			spoil(got, -9)
		}
	}
	for _, page := range pages {
		if got := p.n.Has(page); got != p.m.has(page) {
			p.t.Fatalf("Has(%d): %v", page, got)
		}
	}
}

// mustStandWhole asks of all pages, and of some that are none.
func (p pair) mustStandWhole() {
	p.t.Helper()
	p.mustStand(append(outside(), upTo(0, 1023)...)...)
}

// mustPut holds a Put against its result.
func mustPut(t *testing.T, n *near.Near, cpu, page int, want ...int) {
	t.Helper()
	if out, e := n.Put(cpu, page); !slices.Equal(out, want) || e != api.OK {
		t.Errorf("Put(%d, %d): %v, %d, not %v", cpu, page, out, e, want)
	}
}

// mustRefuse holds a Put against its error, with which nothing is returned.
func mustRefuse(t *testing.T, n *near.Near, cpu, page int, want api.Errno) {
	t.Helper()
	if out, e := n.Put(cpu, page); len(out) != 0 || e != want {
		t.Errorf("Put(%d, %d): %v, %d, not %d", cpu, page, out, e, want)
	}
}

// mustTake holds a Take against the page that it has to return.
func mustTake(t *testing.T, n *near.Near, cpu, want int) {
	t.Helper()
	if page, is := n.Take(cpu); page != want || !is {
		t.Errorf("Take(%d): %d, %v, not %d", cpu, page, is, want)
	}
}

// mustTakeNone holds a Take against nothing.
func mustTakeNone(t *testing.T, n *near.Near, cpu int) {
	t.Helper()
	if page, is := n.Take(cpu); page != 0 || is {
		t.Errorf("Take(%d): %d, %v, not 0, false", cpu, page, is)
	}
}

// mustDrain holds a Drain against the pages that it has to return.
func mustDrain(t *testing.T, n *near.Near, cpu int, want ...int) {
	t.Helper()
	if got := n.Drain(cpu); !slices.Equal(got, want) {
		t.Errorf("Drain(%d): %v, not %v", cpu, got, want)
	}
}

// mustList holds a list against the pages that it has to have.
func mustList(t *testing.T, n *near.Near, cpu int, want ...int) {
	t.Helper()
	if got := n.List(cpu); !slices.Equal(got, want) {
		t.Errorf("List(%d): %v, not %v", cpu, got, want)
	}
}

// mustHave holds Has of one page against what it has to report.
func mustHave(t *testing.T, n *near.Near, page int, want bool) {
	t.Helper()
	if got := n.Has(page); got != want {
		t.Errorf("Has(%d): %v", page, got)
	}
}

// outside are pages that are none.
func outside() []int {
	return []int{math.MinInt, math.MinInt + 1, math.MinInt32, -1024, -2, -1, 1024, 1025, 2048, math.MaxInt32, 1 << 32, math.MaxInt - 1, math.MaxInt}
}

// noCpus are processors that do not exist where there are so many.
func noCpus(cpus int) []int {
	return []int{math.MinInt, math.MinInt + 1, -8, -2, -1, cpus, cpus + 1, cpus + 8, 64, 1 << 32, math.MaxInt - 1, math.MaxInt}
}

// upTo are the numbers from one to another one.
func upTo(from, to int) []int {
	var l []int
	for i := from; i <= to; i++ {
		l = append(l, i)
	}
	return l
}

// noise gives numbers without a pattern, the same ones each time.
type noise uint64

func (n *noise) next(below int) int {
	*n = *n*6364136223846793005 + 1442695040888963407
	return int(uint64(*n)>>33) % below
}

func TestNew(t *testing.T) { // P7.1
	ints := []int{math.MinInt, math.MinInt + 1, math.MinInt32, -64, -8, -2, -1, 0, 1, 2, 3, 7, 8, 9, 10, 63, 64, 65, 66, 128, 256, 1023, 1024, math.MaxInt32, 1 << 32, 1<<32 + 1, math.MaxInt - 1, math.MaxInt}
	good := 0
	for _, cpus := range ints {
		for _, limit := range ints {
			n, e := near.New(cpus, limit)
			if cpus >= 1 && cpus <= 8 && limit >= 0 && limit <= 64 {
				good++
				if n == nil || e != api.OK {
					t.Errorf("New(%d, %d): %v, %d", cpus, limit, n, e)
				}
			} else if n != nil || e != api.ErrArg {
				t.Errorf("New(%d, %d): %v, %d, not nothing, ErrArg", cpus, limit, n, e)
			}
		}
	}
	if good != 5*10 {
		t.Error("numbers that are good:", good)
	}
}

func TestNewHasEmptyLists(t *testing.T) { // P7.1
	for cpus := 1; cpus <= 8; cpus++ {
		for _, limit := range []int{0, 1, 64} {
			p := newPair(t, cpus, limit)
			p.mustStandWhole()
			for cpu := range cpus {
				mustTakeNone(t, p.n, cpu)
				mustDrain(t, p.n, cpu)
			}
			p.mustStandWhole()
		}
	}
}

func TestNewHasSoManyProcessors(t *testing.T) { // P7.1, P7.2
	for cpus := 1; cpus <= 8; cpus++ {
		n := made(t, cpus, 3)
		for cpu := range cpus {
			mustPut(t, n, cpu, 100+cpu)
		}
		for cpu := range cpus {
			mustList(t, n, cpu, 100+cpu)
		}
		for _, cpu := range noCpus(cpus) {
			mustRefuse(t, n, cpu, 9, api.ErrRange)
			mustTakeNone(t, n, cpu)
			mustDrain(t, n, cpu)
			mustList(t, n, cpu)
		}
		mustHave(t, n, 9, false)
		for cpu := range cpus {
			mustTake(t, n, cpu, 100+cpu)
		}
	}
}

func TestPutOutOfRange(t *testing.T) { // P7.2
	for cpus := 1; cpus <= 8; cpus++ {
		for _, limit := range []int{0, 1, 2, 64} {
			p := newPair(t, cpus, limit)
			for round := range 3 {
				for _, cpu := range noCpus(cpus) {
					for _, page := range append(outside(), 0, 1, 20, 1022, 1023) {
						mustRefuse(t, p.n, cpu, page, api.ErrRange)
					}
				}
				for cpu := range cpus {
					for _, page := range outside() {
						mustRefuse(t, p.n, cpu, page, api.ErrRange)
					}
				}
				p.mustStandWhole()
				for cpu := range cpus {
					p.put(cpu, 20*round+cpu)
				}
			}
		}
	}
}

func TestPutOfTheFirstAndTheLastPage(t *testing.T) { // P7.2
	for _, page := range []int{0, 1, 1022, 1023} {
		for cpu := range 8 {
			n := made(t, 8, 1)
			mustHave(t, n, page, false)
			mustPut(t, n, cpu, page)
			mustHave(t, n, page, true)
			mustList(t, n, cpu, page)
			mustRefuse(t, n, cpu, page, api.ErrBlock)
			mustTake(t, n, cpu, page)
			mustHave(t, n, page, false)
		}
	}
}

func TestPutOfAPageThatIsNear(t *testing.T) { // P7.2
	p := newPair(t, 3, 4)
	for _, page := range []int{0, 10, 20, 1023} { // the list is full, so that one more page would cut it
		p.put(0, page)
	}
	p.put(2, 7)
	for _, page := range []int{0, 10, 20, 1023, 7} {
		for cpu := range 3 {
			if _, e := p.put(cpu, page); e != api.ErrBlock {
				t.Errorf("Put(%d, %d): %d", cpu, page, e)
			}
			p.mustStandWhole()
		}
		for _, cpu := range noCpus(3) {
			mustRefuse(t, p.n, cpu, page, api.ErrRange) // the arguments come first
		}
	}
	mustList(t, p.n, 0, 0, 10, 20, 1023)
	mustList(t, p.n, 1)
	mustList(t, p.n, 2, 7)
}

func TestPutOfAPageThatHasLeft(t *testing.T) { // P7.2
	for cpu := range 2 {
		n := made(t, 2, 2)
		mustPut(t, n, 0, 5)
		mustTake(t, n, 0, 5)
		mustPut(t, n, cpu, 5) // taken
		mustDrain(t, n, cpu, 5)
		mustPut(t, n, cpu, 5) // drained
		mustPut(t, n, cpu, 6)
		mustPut(t, n, cpu, 7, 5, 6)
		mustPut(t, n, 1-cpu, 6) // returned
		mustPut(t, n, cpu, 5)
		mustRefuse(t, n, 1-cpu, 7, api.ErrBlock) // stayed
		mustList(t, n, cpu, 7, 5)
		mustList(t, n, 1-cpu, 6)
	}
	n := made(t, 1, 0)
	for range 3 {
		mustPut(t, n, 0, 8, 8) // returned at once
		mustHave(t, n, 8, false)
		mustList(t, n, 0)
	}
}

func TestPutBeyondTheCap(t *testing.T) { // P7.2
	for _, c := range []struct {
		limit     int
		out, stay []int
	}{
		{0, []int{100}, nil},
		{1, []int{100}, []int{101}},
		{2, []int{100, 101}, []int{102}},
		{3, []int{100, 101}, []int{102, 103}},
		{4, []int{100, 101, 102}, []int{103, 104}},
		{5, []int{100, 101, 102}, []int{103, 104, 105}},
		{6, []int{100, 101, 102, 103}, []int{104, 105, 106}},
		{7, []int{100, 101, 102, 103}, []int{104, 105, 106, 107}},
		{63, upTo(100, 131), upTo(132, 163)},
		{64, upTo(100, 132), upTo(133, 164)},
	} {
		n := made(t, 2, c.limit)
		for i := range c.limit { // just to the cap
			mustPut(t, n, 1, 100+i)
			mustList(t, n, 1, upTo(100, 100+i)...)
		}
		mustPut(t, n, 1, 100+c.limit, c.out...)
		mustList(t, n, 1, c.stay...)
		mustList(t, n, 0)
		for _, page := range c.out {
			mustHave(t, n, page, false)
		}
		for _, page := range c.stay {
			mustHave(t, n, page, true)
		}
		mustDrain(t, n, 1, c.stay...)
	}
}

func TestPutBeyondEachCap(t *testing.T) { // P7.2
	for limit := 0; limit <= 64; limit++ {
		p := newPair(t, 2, limit)
		outs := 0
		for i := range 200 {
			page := i * 517 % 1024 // in no increasing order
			out, _ := p.put(0, page)
			if len(out) > 0 {
				outs++
				if len(out) != (limit+2)/2 {
					t.Errorf("cap %d: %v is out", limit, out)
				}
			}
			p.mustStand(page)
		}
		// The first time limit + 1 pages are needed, then as many as were returned each time.
		if want := 1 + (199-limit)/((limit+2)/2); outs != want {
			t.Errorf("cap %d: %d times beyond, not %d", limit, outs, want)
		}
		p.mustStandWhole()
	}
}

func TestCapOfEachProcessor(t *testing.T) { // P7.2
	p := newPair(t, 8, 3)
	for i := range 3 { // all lists get full: it is none of them that the others count for
		for cpu := range 8 {
			if out, _ := p.put(cpu, 8*i+cpu); len(out) > 0 {
				t.Errorf("%d pages: %v is out", i, out)
			}
			p.mustStand()
		}
	}
	for cpu := range 8 {
		mustPut(t, p.n, cpu, 100+cpu, cpu, 8+cpu)
		mustList(t, p.n, cpu, 16+cpu, 100+cpu)
	}
}

func TestTake(t *testing.T) { // P7.3
	n := made(t, 2, 4)
	mustTakeNone(t, n, 0)
	mustTakeNone(t, n, 1)
	mustPut(t, n, 1, 0) // page 0 is a page
	mustTakeNone(t, n, 0)
	mustTake(t, n, 1, 0)
	mustTakeNone(t, n, 1)
	for _, page := range []int{9, 3, 6, 1} {
		mustPut(t, n, 1, page)
	}
	mustTake(t, n, 1, 1)
	mustList(t, n, 1, 9, 3, 6)
	mustHave(t, n, 1, false)
	mustTake(t, n, 1, 6)
	mustPut(t, n, 1, 2)
	mustList(t, n, 1, 9, 3, 2)
	mustTake(t, n, 1, 2)
	mustTake(t, n, 1, 3)
	mustTake(t, n, 1, 9)
	mustTakeNone(t, n, 1)
	mustList(t, n, 1)
}

func TestTakeBehindAPut(t *testing.T) { // P7.3, P7.6
	for limit := 0; limit <= 64; limit++ {
		n := made(t, 1, limit)
		for page := range 150 {
			before := n.List(0)
			out, e := n.Put(0, page)
			if e != api.OK {
				t.Fatalf("Put(0, %d): %d", page, e)
			}
			if len(out) == 0 {
				mustTake(t, n, 0, page)
				mustList(t, n, 0, before...)
				mustPut(t, n, 0, page)
				continue
			}
			all := slices.Concat(before, []int{page})
			stay := all[len(out):]
			mustList(t, n, 0, stay...)
			if len(stay) == 0 { // with a cap of 0 the page itself was returned
				mustTakeNone(t, n, 0)
				continue
			}
			mustTake(t, n, 0, page)
			mustList(t, n, 0, stay[:len(stay)-1]...)
			if page%2 == 0 {
				mustPut(t, n, 0, page)
			}
		}
	}
}

func TestDrain(t *testing.T) { // P7.3
	for _, limit := range []int{1, 2, 3, 6, 64} {
		n := made(t, 3, limit)
		mustDrain(t, n, 1)
		for i := range limit {
			mustPut(t, n, 1, 1023-i)
			mustPut(t, n, 2, 500+i)
		}
		full := n.List(1)
		for _, cpu := range noCpus(3) {
			mustDrain(t, n, cpu)
		}
		mustDrain(t, n, 0)
		mustList(t, n, 1, full...)
		if len(full) != limit || full[0] != 1023 {
			t.Error("the list is not full", full)
		}
		mustDrain(t, n, 1, full...)
		mustList(t, n, 1)
		mustHave(t, n, 1023, false)
		mustDrain(t, n, 1)
		mustTakeNone(t, n, 1)
		mustList(t, n, 2, upTo(500, 499+limit)...)
		mustPut(t, n, 1, 1023)
		mustDrain(t, n, 1, 1023)
		mustDrain(t, n, 2, upTo(500, 499+limit)...)
	}
}

func TestHas(t *testing.T) { // P7.3
	for cpu := range 8 {
		n := made(t, 8, 5)
		for _, page := range []int{3, 0, 1023, 512, 4} {
			mustPut(t, n, cpu, page)
		}
		for page := -3; page < 1030; page++ {
			mustHave(t, n, page, slices.Contains([]int{0, 3, 4, 512, 1023}, page))
		}
		for _, page := range outside() {
			mustHave(t, n, page, false)
		}
		mustTake(t, n, cpu, 4)
		mustHave(t, n, 4, false)
		mustHave(t, n, 512, true)
		mustPut(t, n, 7-cpu, 4)
		mustHave(t, n, 4, true)
		n.Drain(cpu)
		mustHave(t, n, 0, false)
		mustHave(t, n, 4, true)
		n.Drain(7 - cpu)
		mustHave(t, n, 4, false)
	}
}

func TestListsAreTheirProcessors(t *testing.T) { // P7.3
	n := made(t, 3, 2)
	mustPut(t, n, 1, 8)
	mustPut(t, n, 2, 3)
	mustPut(t, n, 1, 2)
	mustList(t, n, 0)
	mustList(t, n, 1, 8, 2)
	mustList(t, n, 2, 3)
	mustTake(t, n, 2, 3)
	mustList(t, n, 1, 8, 2)
	mustList(t, n, 2)
	mustPut(t, n, 1, 3, 8, 2)
	mustList(t, n, 0)
	mustList(t, n, 1, 3)
	mustList(t, n, 2)
	for _, cpu := range noCpus(3) {
		mustList(t, n, cpu)
	}
}

func TestNothing(t *testing.T) { // nil and zero Near
	numbers := slices.Concat(outside(), upTo(-9, 9), []int{1022, 1023})
	for _, n := range []*near.Near{nil, {}, new(near.Near)} {
		for range 2 {
			for _, cpu := range numbers {
				for _, page := range numbers {
					mustRefuse(t, n, cpu, page, api.ErrNil) // that nothing is there comes first
				}
				mustTakeNone(t, n, cpu)
				mustDrain(t, n, cpu)
				mustList(t, n, cpu)
				mustHave(t, n, cpu, false)
			}
		}
	}
}

// states are all lists of two processors with pages from 0 to less than many, and a cap.
func states(many, limit int) [][2][]int {
	all := [][2][]int{{}}
	for from := 0; from < len(all); from++ {
		s := all[from]
		for cpu := range 2 {
			if cpu == 0 && len(s[1]) > 0 || len(s[cpu]) == limit {
				continue // the first list is complete when the second one begins, so that each state comes once
			}
			for page := range many {
				if !slices.Contains(s[0], page) && !slices.Contains(s[1], page) {
					next := s
					next[cpu] = append(slices.Clone(s[cpu]), page)
					all = append(all, next)
				}
			}
		}
	}
	return all
}

// in is lists that are in a state. Where from is greater than 0, so many other pages were put and taken ahead of that.
func in(t *testing.T, limit, from int, s [2][]int) pair {
	t.Helper()
	p := newPair(t, 2, limit)
	for cpu := range 2 {
		for i := range from {
			p.put(cpu, 900+i)
		}
		for range from {
			p.take(cpu)
		}
		for _, page := range s[cpu] {
			p.put(cpu, page)
		}
	}
	return p
}

func TestAllStatesOfFewPages(t *testing.T) { // P7.2, P7.3, P7.4, P7.5, P7.6
	asked := slices.Concat(upTo(-2, 6), []int{900, 901, 902, 1022, 1023, 1024, 1025})
	counts := []int{1, 21, 117, 213, 261}
	for limit := range 5 {
		all := states(4, limit)
		if len(all) != counts[limit] {
			t.Errorf("cap %d: %d states, not %d", limit, len(all), counts[limit])
		}
		for _, s := range all {
			for from := range limit + 1 {
				for cpu := -1; cpu <= 2; cpu++ {
					for page := -1; page <= 5; page++ {
						p := in(t, limit, from, s)
						p.put(cpu, page)
						p.mustStand(asked...)
					}
					p := in(t, limit, from, s)
					p.take(cpu)
					p.mustStand(asked...)
					p = in(t, limit, from, s)
					p.drain(cpu)
					p.mustStand(asked...)
				}
			}
		}
	}
}

func TestErrorsChangeNothing(t *testing.T) { // P7.2
	for _, limit := range []int{0, 1, 2, 3, 64} {
		p := newPair(t, 4, limit)
		q := newPair(t, 4, limit)
		z := noise(72)
		for range 400 {
			for _, cpu := range append(noCpus(4), z.next(4)) { // p is asked for what can't be, q is not
				mustRefuse(t, p.n, cpu, 1024+z.next(9), api.ErrRange)
				mustRefuse(t, p.n, cpu, -1-z.next(9), api.ErrRange)
			}
			for cpu := range 4 {
				for _, page := range p.m.list(z.next(4)) {
					mustRefuse(t, p.n, cpu, page, api.ErrBlock)
				}
			}
			cpu, page := z.next(4), z.next(300)
			p.put(cpu, page)
			q.put(cpu, page)
			p.mustStand(page)
			for cpu := range 4 {
				mustList(t, p.n, cpu, q.n.List(cpu)...)
			}
		}
	}
}

func TestManyCalls(t *testing.T) { // P7.2, P7.3, P7.4, P7.5
	for seed, limit := range []int{0, 1, 2, 3, 4, 5, 6, 7, 31, 32, 63, 64} {
		for cpus := 1; cpus <= 8; cpus += 1 + seed%3 {
			z := noise(100*seed + cpus)
			p := newPair(t, cpus, limit)
			pages := min(1024, 1+3*cpus*(1+limit)) // most of which are near no processor
			outs, refused := 0, 0
			for range 1500 {
				cpu := z.next(cpus+2) - 1
				switch z.next(12) {
				case 0, 1:
					p.take(cpu)
				case 2:
					if z.next(8) == 0 {
						p.drain(cpu)
					}
				default:
					out, e := p.put(cpu, z.next(pages+1)-1)
					if len(out) > 0 {
						outs++
					}
					if e == api.ErrBlock {
						refused++
					}
				}
				p.mustStand(z.next(pages), cpu)
			}
			p.mustStandWhole()
			if outs == 0 || refused == 0 && limit > 0 {
				t.Errorf("%d processors, cap %d: %d times beyond, %d times refused", cpus, limit, outs, refused)
			}
		}
	}
}

func TestEachPageLeavesOnce(t *testing.T) { // P7.5
	for limit := range 65 {
		z := noise(limit)
		n := made(t, 4, limit)
		puts, outs := make([]int, 1024), make([]int, 1024) // how often each page was put, and left
		leave := func(l ...int) {
			for _, page := range l {
				outs[page]++
			}
		}
		for range 3000 {
			cpu, page := z.next(4), z.next(400)
			switch z.next(10) {
			case 0:
				if page, is := n.Take(cpu); is {
					leave(page)
				}
			case 1:
				if z.next(10) == 0 {
					leave(n.Drain(cpu)...)
				}
			default:
				out, e := n.Put(cpu, page)
				if e == api.OK {
					puts[page]++
				}
				leave(out...)
			}
			if puts[page]-outs[page] != count(n, page) || n.Has(page) != (count(n, page) == 1) {
				t.Fatalf("cap %d: page %d was put %d times, left %d times, is in %d lists", limit, page, puts[page], outs[page], count(n, page))
			}
		}
		for cpu := range 4 {
			if l := n.List(cpu); len(l) > limit {
				t.Errorf("cap %d: %v", limit, l)
			}
			leave(n.Drain(cpu)...)
		}
		if !slices.Equal(puts, outs) {
			t.Errorf("cap %d: put %v, left %v", limit, puts, outs)
		}
	}
}

// count is in how many lists a page is, or how often in one.
func count(n *near.Near, page int) int {
	many := 0
	for cpu := range 8 {
		for _, p := range n.List(cpu) {
			if p == page {
				many++
			}
		}
	}
	return many
}

func TestResultsAreNewMemory(t *testing.T) { // P7.4
	for _, limit := range []int{1, 2, 3, 6, 64} {
		n := made(t, 2, limit)
		want := upTo(0, limit-1)
		for _, page := range want {
			mustPut(t, n, 0, page)
		}
		first, again := n.List(0), n.List(0)
		spoil(first, -9)
		if !slices.Equal(again, want) {
			t.Error("two lists share memory", again)
		}
		mustList(t, n, 0, want...)
		out, e := n.Put(0, 100)
		if e != api.OK || len(out) != (limit+2)/2 {
			t.Fatalf("cap %d: %v, %d", limit, out, e)
		}
		stay := append(want, 100)[len(out):]
		for _, page := range out[len(out):cap(out)] {
			if slices.Contains(stay, page) {
				t.Errorf("cap %d: page %d, which stays, is behind %v", limit, page, out)
			}
		}
		for at := range out { // what was returned, and what follows it, is the caller's
			out[at] = -1
		}
		out = append(out, -2, -3)
		mustList(t, n, 0, stay...)
		spoil(out, -9)
		mustList(t, n, 0, stay...)
		mustHave(t, n, 100, true)
		drained := n.Drain(0)
		if !slices.Equal(drained, stay) {
			t.Errorf("Drain(0): %v, not %v", drained, stay)
		}
		for i := range limit { // what is put later is not put into what was returned
			mustPut(t, n, 0, 200+i)
		}
		if !slices.Equal(drained, stay) {
			t.Errorf("what was drained is now %v, not %v", drained, stay)
		}
		spoil(drained, -9)
		mustList(t, n, 0, upTo(200, 199+limit)...)
	}
}

func TestResultsStayAsTheyAre(t *testing.T) { // P7.4
	for _, limit := range []int{0, 1, 2, 3, 6, 64} {
		z := noise(limit)
		n := made(t, 2, limit)
		var results, copies [][]int
		keep := func(l []int) {
			results = append(results, l)
			copies = append(copies, slices.Clone(l))
		}
		for range 3000 {
			cpu := z.next(2)
			switch z.next(12) {
			case 0:
				n.Take(cpu)
			case 1:
				if z.next(5) == 0 {
					keep(n.Drain(cpu))
				}
			case 2:
				keep(n.List(cpu))
			default:
				out, _ := n.Put(cpu, z.next(1024))
				keep(out)
			}
		}
		for i, l := range results { // each is as it was, whatever was written into those ahead of it
			if !slices.Equal(l, copies[i]) {
				t.Fatalf("cap %d: a result was %v, and is %v", limit, copies[i], l)
			}
			spoil(l, -9-i)
		}
		for i, l := range results { // .. or behind it
			if !slices.Equal(l, slices.Repeat([]int{-9 - i}, len(l))) {
				t.Fatalf("cap %d: results share memory: %v", limit, l)
			}
		}
	}
}

func TestTwoNears(t *testing.T) { // R2
	p, q := newPair(t, 2, 2), newPair(t, 2, 2)
	p.put(0, 5)
	p.put(1, 6)
	q.mustStandWhole()
	q.put(1, 5)
	p.mustStandWhole()
	p.drain(1)
	p.take(0)
	q.mustStandWhole()
}

func TestSameAnswersEachTime(t *testing.T) { // R2
	z := noise(7)
	a, b := made(t, 3, 5), made(t, 3, 5)
	for range 3000 {
		cpu, page := z.next(3), z.next(40)
		switch z.next(10) {
		case 0:
			if page, is := a.Take(cpu); is {
				mustTake(t, b, cpu, page)
			} else {
				mustTakeNone(t, b, cpu)
			}
		case 1:
			if z.next(6) == 0 {
				mustDrain(t, b, cpu, a.Drain(cpu)...)
			}
		default:
			if out, e := a.Put(cpu, page); e == api.OK {
				mustPut(t, b, cpu, page, out...)
			} else {
				mustRefuse(t, b, cpu, page, e)
			}
		}
		b.List(z.next(3)) // asking changes nothing
		b.Has(page)
		mustList(t, b, cpu, a.List(cpu)...)
	}
}

func TestExamples(t *testing.T) { // the chapter's examples
	n := made(t, 2, 2)
	mustPut(t, n, 0, 5)
	mustPut(t, n, 0, 6)
	mustRefuse(t, n, 1, 5, api.ErrBlock)
	mustTake(t, n, 0, 6)
	mustHave(t, n, 6, false)
	mustPut(t, n, 0, 6)
	mustPut(t, n, 0, 7, 5, 6)
	mustList(t, n, 0, 7)
	mustDrain(t, n, 0, 7)
	mustTakeNone(t, n, 0)
	mustRefuse(t, n, 2, 1, api.ErrRange)
}
