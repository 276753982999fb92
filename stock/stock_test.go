package stock_test

import (
	"math"
	"slices"
	"strconv"
	"strings"
	"testing"

	"wainscot/api"
	"wainscot/charge"
	"wainscot/stock"
	"wainscot/tree"
)

// The tests hold the package against the chapter said a second time, in another way: the model has no counts, but a list for each processor with an entry for each single byte, which is the group whose it is. The properties P13.5 and P13.6 are held against what the stocks themselves tell, without the model.

// most is MaxNumber, the greatest number of bytes.
const most = 9007199254740991

// full is MaxStock.
const full = 1024

// model is stocks of the tests.
type model struct{ stocks [][]int }

// copies is so many bytes of a group.
func copies(group, n int) []int { return slices.Repeat([]int{group}, n) }

// list is what a processor has, nothing if there is no such processor.
func (m *model) list(cpu int) []int {
	if cpu < 0 || cpu > len(m.stocks)-1 {
		return nil
	}
	return m.stocks[cpu]
}

// has is what Has has to return.
func (m *model) has(cpu int) (int, int) {
	l := m.list(cpu)
	if len(l) == 0 {
		return 0, 0
	}
	return l[0], len(l)
}

// drain is what Drain has to do.
func (m *model) drain(cpu int) (int, int) {
	group, n := m.has(cpu)
	if n > 0 {
		m.stocks[cpu] = nil
	}
	return group, n
}

// take is what Take has to do.
func (m *model) take(cpu, group, n int) bool {
	l := m.list(cpu)
	if n < 1 || n > len(l) || !slices.Contains(l, group) {
		return false
	}
	m.stocks[cpu] = l[n:]
	return true
}

// faults are all errors of the arguments of a Put, in the order in which they come, and OK.
func (m *model) faults(cpu, group, n int) []api.Errno {
	var l []api.Errno
	if !slices.Contains(upTo(0, len(m.stocks)-1), cpu) {
		l = append(l, api.ErrRange)
	}
	if !slices.Contains(upTo(1, 16), group) {
		l = append(l, api.ErrGroup)
	}
	if n < 0 || n > most {
		l = append(l, api.ErrArg)
	}
	return append(l, api.OK)
}

// put is what Put has to do.
func (m *model) put(cpu, group, n int) (was, over int, e api.Errno) {
	if e := m.faults(cpu, group, n)[0]; e != api.OK {
		return 0, 0, e
	}
	l := m.stocks[cpu]
	isOther := len(l) > 0 && l[0] != group
	switch {
	case isOther && n > full:
		return 0, 0, api.ErrArg
	case isOther:
		was, over = m.drain(cpu)
		m.stocks[cpu] = copies(group, n)
		return was, over, api.OK
	case n > full-len(l):
		m.stocks[cpu] = copies(group, 512)
		return group, n - (512 - len(l)), api.OK
	}
	m.stocks[cpu] = slices.Concat(l, copies(group, n))
	return 0, 0, api.OK
}

// held is how many bytes of each group there are.
func (m *model) held() map[int]int {
	sums := map[int]int{}
	for _, l := range m.stocks {
		for _, group := range l {
			sums[group]++
		}
	}
	return sums
}

// pair is stocks and their model, which are always called together.
type pair struct {
	t    *testing.T
	s    *stock.Stock
	m    *model
	done []string // the calls so far
}

// made is stocks that are empty.
func made(t *testing.T, cpus int) *stock.Stock {
	t.Helper()
	s, e := stock.New(cpus)
	if s == nil || e != api.OK {
		t.Fatalf("New(%d): %v, %d", cpus, s, e)
	}
	return s
}

// newPair is stocks that are empty, and their model.
func newPair(t *testing.T, cpus int) *pair {
	t.Helper()
	return &pair{t, made(t, cpus), &model{make([][]int, cpus)}, nil}
}

// all is the calls so far, or the last ones of many, for what is told of a fault.
func (p *pair) all() string {
	return "of " + strconv.Itoa(len(p.m.stocks)) + ", after " + strings.Join(p.done[max(0, len(p.done)-40):], " ")
}

// note writes a call down.
func (p *pair) note(name string, args ...int) {
	for _, arg := range args {
		name += "," + strconv.Itoa(arg)
	}
	p.done = append(p.done, name)
}

// take takes bytes, and holds the result against the model.
func (p *pair) take(cpu, group, n int) bool {
	p.t.Helper()
	p.note("take", cpu, group, n)
	got := p.s.Take(cpu, group, n)
	if want := p.m.take(cpu, group, n); got != want {
		p.t.Fatalf("%v, not %v: %s", got, want, p.all())
	}
	return got
}

// put puts bytes, and holds the results against the model.
func (p *pair) put(cpu, group, n int) (int, int, api.Errno) {
	p.t.Helper()
	p.note("put", cpu, group, n)
	was, over, e := p.s.Put(cpu, group, n)
	if wantWas, wantOver, wantE := p.m.put(cpu, group, n); was != wantWas || over != wantOver || e != wantE {
		p.t.Fatalf("%d, %d, %d, not %d, %d, %d: %s", was, over, e, wantWas, wantOver, wantE, p.all())
	}
	return was, over, e
}

// drain drains a processor, and holds the results against the model.
func (p *pair) drain(cpu int) (int, int) {
	p.t.Helper()
	p.note("drain", cpu)
	group, n := p.s.Drain(cpu)
	if wantGroup, wantN := p.m.drain(cpu); group != wantGroup || n != wantN {
		p.t.Fatalf("%d, %d, not %d, %d: %s", group, n, wantGroup, wantN, p.all())
	}
	return group, n
}

// stands is what a processor has, by what the stocks themselves tell.
type stands struct{ group, n int }

// tells is how all stocks stand, by what they themselves tell.
func tells(s *stock.Stock) [8]stands {
	var l [8]stands
	for cpu := range l {
		l[cpu].group, l[cpu].n = s.Has(cpu)
	}
	return l
}

// mustStand holds everything that is told of the stocks against the model, and against P13.6.
func (p *pair) mustStand() {
	p.t.Helper()
	for cpu := -1; cpu <= len(p.m.stocks); cpu++ {
		group, n := p.s.Has(cpu)
		if wantGroup, wantN := p.m.has(cpu); group != wantGroup || n != wantN {
			p.t.Fatalf("Has(%d): %d, %d, not %d, %d: %s", cpu, group, n, wantGroup, wantN, p.all())
		}
	}
	mustBeStocks(p.t, p.s, p.all)
	sums := p.m.held()
	for group := -1; group <= 18; group++ {
		if got := p.s.Held(group); got != sums[group] {
			p.t.Fatalf("Held(%d): %d, not %d: %s", group, got, sums[group], p.all())
		}
	}
}

// mustBeStocks holds stocks against what a stock is (Definitions, P13.6): a group with 1 to MaxStock bytes, or empty.
func mustBeStocks(t *testing.T, s *stock.Stock, all func() string) {
	t.Helper()
	for cpu, is := range tells(s) {
		isFilled := is.group >= 1 && is.group <= 16 && is.n >= 1 && is.n <= full
		if !isFilled && is != (stands{}) {
			t.Fatalf("Has(%d): %v is no stock: %s", cpu, is, all())
		}
	}
}

// puts holds a Put against results that the test says itself.
func (p *pair) puts(cpu, group, n, was, over int) {
	p.t.Helper()
	if gotWas, gotOver, e := p.put(cpu, group, n); gotWas != was || gotOver != over || e != api.OK {
		p.t.Fatalf("%d, %d, %d, not %d, %d: %s", gotWas, gotOver, e, was, over, p.all())
	}
	p.mustStand()
}

// refuses holds a Put against its error, with which nothing is returned, and nothing changes.
func (p *pair) refuses(cpu, group, n int, want api.Errno) {
	p.t.Helper()
	before := tells(p.s)
	if was, over, e := p.put(cpu, group, n); was != 0 || over != 0 || e != want {
		p.t.Fatalf("%d, %d, %d, not %d: %s", was, over, e, want, p.all())
	}
	p.isAs(before)
}

// takes holds a Take against what the test says itself. One that is refused may change nothing.
func (p *pair) takes(cpu, group, n int, want bool) {
	p.t.Helper()
	before := tells(p.s)
	if got := p.take(cpu, group, n); got != want {
		p.t.Fatalf("%v, not %v: %s", got, want, p.all())
	}
	if !want {
		p.isAs(before)
	}
	p.mustStand()
}

// drains holds a Drain against results that the test says itself; behind it the stock is empty.
func (p *pair) drains(cpu, group, n int) {
	p.t.Helper()
	if gotGroup, gotN := p.drain(cpu); gotGroup != group || gotN != n {
		p.t.Fatalf("%d, %d, not %d, %d: %s", gotGroup, gotN, group, n, p.all())
	}
	p.has(cpu, 0, 0)
}

// has holds a stock against the one that the test says itself.
func (p *pair) has(cpu, group, n int) {
	p.t.Helper()
	if gotGroup, gotN := p.s.Has(cpu); gotGroup != group || gotN != n {
		p.t.Fatalf("Has(%d): %d, %d, not %d, %d: %s", cpu, gotGroup, gotN, group, n, p.all())
	}
	p.mustStand()
}

// holds holds Held of a group against what the test says itself.
func (p *pair) holds(group, want int) {
	p.t.Helper()
	if got := p.s.Held(group); got != want {
		p.t.Fatalf("Held(%d): %d, not %d: %s", group, got, want, p.all())
	}
}

// isAs holds the stocks against what they were.
func (p *pair) isAs(before [8]stands) {
	p.t.Helper()
	if got := tells(p.s); got != before {
		p.t.Fatalf("%v, not %v: %s", got, before, p.all())
	}
	p.mustStand()
}

// in is stocks of some processors that stand so: each one was filled by one Put.
func in(t *testing.T, l ...stands) *pair {
	t.Helper()
	p := newPair(t, len(l))
	for cpu, is := range l {
		if is != (stands{}) {
			p.puts(cpu, is.group, is.n, 0, 0)
		}
	}
	return p
}

// noCpus are processors that do not exist where there are so many.
func noCpus(cpus int) []int {
	return []int{math.MinInt, math.MinInt + 1, math.MinInt32, -cpus, -2, -1, cpus, cpus + 1, cpus + 8, 64, 1 << 32, math.MaxInt - 1, math.MaxInt}
}

// noGroups are numbers of no group.
func noGroups() []int {
	return []int{math.MinInt, math.MinInt + 1, math.MinInt32, -16, -2, -1, 0, 17, 18, 33, 256 + 1, 1 << 32, 1<<32 + 1, math.MaxInt - 1, math.MaxInt}
}

// noSizes are numbers that are none of bytes.
func noSizes() []int {
	return []int{math.MinInt, math.MinInt + 1, -most, math.MinInt32, -1024, -2, -1, most + 1, most + 2, 1 << 54, math.MaxInt - 1023, math.MaxInt - 1, math.MaxInt}
}

// upTo are the numbers from one to another one.
func upTo(from, to int) []int {
	var l []int
	for i := from; i <= to; i++ {
		l = append(l, i)
	}
	return l
}

// noise gives numbers without a pattern, the same ones each time.
type noise uint64

func (n *noise) next(below int) int {
	*n = *n*6364136223846793005 + 1442695040888963407
	return int(uint64(*n)>>33) % below
}

// size is a number of bytes around one of those at which something changes.
func (n *noise) size() int {
	return []int{0, 1, 2, 60, 511, 512, 513, 1022, 1023, 1024, 1025, 1026, 2048, n.next(1030), n.next(100), n.next(20), most - n.next(3)}[n.next(17)]
}

func TestMaxStock(t *testing.T) { // Definitions
	if stock.MaxStock != full {
		t.Error(stock.MaxStock)
	}
	var small uint16 = stock.MaxStock // a constant without a type
	_ = small
}

func TestNew(t *testing.T) { // P13.1
	good := 0
	for _, cpus := range []int{math.MinInt, math.MinInt + 1, math.MinInt32, -64, -9, -8, -2, -1, 0, 1, 2, 3, 4, 5, 6, 7, 8, 9, 10, 16, 17, 64, 256 + 1, math.MaxInt32, 1 << 32, 1<<32 + 1, math.MaxInt - 1, math.MaxInt} {
		s, e := stock.New(cpus)
		if cpus >= 1 && cpus <= 8 {
			good++
			if s == nil || e != api.OK {
				t.Errorf("New(%d): %v, %d", cpus, s, e)
			}
		} else if s != nil || e != api.ErrArg {
			t.Errorf("New(%d): %v, %d, not nothing, ErrArg", cpus, s, e)
		}
	}
	if good != 8 {
		t.Error("numbers that are good:", good)
	}
}

func TestNewIsEmpty(t *testing.T) { // P13.1
	for cpus := 1; cpus <= 8; cpus++ {
		p := newPair(t, cpus)
		p.mustStand()
		for cpu := range cpus {
			p.has(cpu, 0, 0)
			for group := -1; group <= 18; group++ {
				p.takes(cpu, group, 1, false)
				p.holds(group, 0)
			}
			p.drains(cpu, 0, 0)
		}
		for cpu := range cpus { // each one can be filled
			p.puts(cpu, 16-cpu, full-cpu, 0, 0)
		}
		for cpu := range cpus {
			p.has(cpu, 16-cpu, full-cpu)
		}
	}
}

func TestNothing(t *testing.T) { // nil and zero Stock
	numbers := slices.Concat(noCpus(8), noGroups(), noSizes(), upTo(0, 20), []int{511, 512, 513, 1023, 1024, 1025, most})
	for _, s := range []*stock.Stock{nil, {}, new(stock.Stock)} {
		for range 2 {
			for _, cpu := range numbers {
				for _, group := range numbers {
					for _, n := range numbers {
						if was, over, e := s.Put(cpu, group, n); was != 0 || over != 0 || e != api.ErrNil { // that nothing is there comes first
							t.Fatalf("Put(%d, %d, %d): %d, %d, %d", cpu, group, n, was, over, e)
						}
						if s.Take(cpu, group, n) {
							t.Fatalf("Take(%d, %d, %d): true", cpu, group, n)
						}
					}
				}
				if group, n := s.Drain(cpu); group != 0 || n != 0 {
					t.Fatalf("Drain(%d): %d, %d", cpu, group, n)
				}
				if group, n := s.Has(cpu); group != 0 || n != 0 {
					t.Fatalf("Has(%d): %d, %d", cpu, group, n)
				}
				if got := s.Held(cpu); got != 0 {
					t.Fatalf("Held(%d): %d", cpu, got)
				}
			}
		}
	}
}

// fills are stocks of each sort: empty, hardly filled, half full, nearly full and full, of the first group, of another one and of the last one.
func fills() []stands {
	l := []stands{{}}
	for _, group := range []int{1, 2, 16} {
		for _, n := range []int{1, 512, 1023, 1024} {
			l = append(l, stands{group, n})
		}
	}
	return l
}

func TestNoProcessor(t *testing.T) { // P13.2, P13.3, P13.4
	for cpus := 1; cpus <= 8; cpus++ {
		for _, is := range fills() {
			p := in(t, slices.Repeat([]stands{is}, cpus)...)
			for _, cpu := range noCpus(cpus) {
				for _, group := range []int{0, 1, 2, 16} {
					p.takes(cpu, group, 1, false)
					p.refuses(cpu, group, 1, api.ErrRange)
					p.refuses(cpu, group, 0, api.ErrRange)
				}
				p.drains(cpu, 0, 0)
				p.has(cpu, 0, 0)
			}
			for cpu := range cpus {
				p.drains(cpu, is.group, is.n)
			}
		}
	}
}

func TestNoGroup(t *testing.T) { // P13.2, P13.3, P13.4
	for _, is := range fills() {
		p := in(t, is, stands{}, is)
		for _, group := range noGroups() {
			for cpu := range 3 {
				for _, n := range []int{0, 1, 512, 1024, 1025, most} {
					p.takes(cpu, group, n, false)
					p.refuses(cpu, group, n, api.ErrGroup)
				}
			}
			p.holds(group, 0)
		}
	}
}

func TestEachGroup(t *testing.T) { // P13.2, P13.3, P13.4
	for group := 1; group <= 16; group++ {
		p := newPair(t, 2)
		p.puts(1, group, 1000, 0, 0)
		for other := -1; other <= 18; other++ {
			if other != group {
				p.takes(1, other, 1, false)
				p.takes(1, other, 1000, false)
				p.holds(other, 0)
			}
		}
		p.holds(group, 1000)
		p.takes(1, group, 1, true)
		p.puts(1, group, 26, group, 1025-512)
		p.has(1, group, 512)
		p.holds(group, 512)
		p.drains(1, group, 512)
		p.holds(group, 0)
	}
}

func TestTake(t *testing.T) { // P13.2: of stocks that have something, and of empty ones
	for _, is := range fills() {
		for cpu := range 3 {
			l := []stands{{1, 7}, {16, 1024}, {}}
			l[cpu] = is
			for _, n := range slices.Concat(noSizes(), []int{0, 1, 2, 511, 512, 513, 1022, 1023, 1024, 1025, most}) {
				for group := -1; group <= 17; group++ {
					p := in(t, l...)
					if n < 1 || n > is.n || group != is.group {
						p.takes(cpu, group, n, false)
						continue
					}
					p.takes(cpu, group, n, true)
					if n == is.n {
						p.has(cpu, 0, 0)
					} else {
						p.has(cpu, group, is.n-n)
					}
				}
			}
		}
	}
}

func TestEveryTake(t *testing.T) { // P13.2: of each number of bytes each one that may be taken, and some that may not
	s := made(t, 2)
	for had := range full + 1 {
		for n := -1; n <= full+2; n++ {
			s.Drain(1)
			s.Put(1, 3, had)
			want, left := false, stands{3, had}
			if n >= 1 && n <= had {
				want, left.n = true, had-n
			}
			if left.n == 0 {
				left = stands{}
			}
			if got := s.Take(1, 3, n); got != want || tells(s) != [8]stands{1: left} {
				t.Fatalf("Take(1, 3, %d) of %d bytes: %v, not %v; %v is left", n, had, got, want, tells(s))
			}
		}
	}
}

func TestTakeUntilNothingIsLeft(t *testing.T) { // P13.2
	for _, n := range []int{1, 3, 100, 341, 512, 1024} {
		p := newPair(t, 1)
		p.puts(0, 9, full, 0, 0)
		left := full
		for left >= n {
			p.takes(0, 9, left+1, false)
			p.takes(0, 9, n, true)
			left -= n
			p.holds(9, left)
		}
		p.takes(0, 9, n, false)
		if left > 0 {
			p.takes(0, 9, left, true)
		}
		p.has(0, 0, 0)
		p.takes(0, 9, 1, false)
		p.takes(0, 0, 1, false)
	}
}

func TestPutIntoAnEmptyStock(t *testing.T) { // P13.3
	for _, c := range []struct{ n, over, stays int }{
		{0, 0, 0},
		{1, 0, 1},
		{511, 0, 511},
		{512, 0, 512},
		{513, 0, 513},
		{1023, 0, 1023},
		{1024, 0, 1024},
		{1025, 513, 512},
		{1536, 1024, 512},
		{2048, 1536, 512},
		{1 << 32, 1<<32 - 512, 512},
		{most - 1, 9007199254740478, 512},
		{most, 9007199254740479, 512},
	} {
		for _, group := range []int{1, 2, 15, 16} {
			p := newPair(t, 2)
			was, stays := 0, group
			if c.over > 0 {
				was = group
			}
			if c.stays == 0 {
				stays = 0
			}
			p.puts(1, group, c.n, was, c.over)
			p.has(1, stays, c.stays)
			p.holds(group, c.stays)
			p.has(0, 0, 0)
			p.drains(1, stays, c.stays)
		}
	}
}

func TestPutIntoAStockOfTheGroup(t *testing.T) { // P13.3
	for _, c := range []struct{ had, n, over, stays int }{
		{1, 0, 0, 1}, {1, 1, 0, 2}, {1, 512, 0, 513}, {1, 1022, 0, 1023}, {1, 1023, 0, 1024}, {1, 1024, 513, 512}, {1, 1025, 514, 512}, {1, most, most - 511, 512},
		{512, 0, 0, 512}, {512, 1, 0, 513}, {512, 511, 0, 1023}, {512, 512, 0, 1024}, {512, 513, 513, 512}, {512, 1023, 1023, 512}, {512, 1024, 1024, 512}, {512, 1025, 1025, 512}, {512, most, most, 512},
		{1023, 0, 0, 1023}, {1023, 1, 0, 1024}, {1023, 2, 513, 512}, {1023, 1023, 1534, 512}, {1023, 1024, 1535, 512}, {1023, 1025, 1536, 512}, {1023, most, most + 511, 512},
		{1024, 0, 0, 1024}, {1024, 1, 513, 512}, {1024, 1023, 1535, 512}, {1024, 1024, 1536, 512}, {1024, 1025, 1537, 512}, {1024, most, most + 512, 512},
	} {
		for _, group := range []int{1, 2, 16} {
			p := in(t, stands{group, 1024}, stands{group, c.had})
			was := 0
			if c.over > 0 {
				was = group
			}
			p.puts(1, group, c.n, was, c.over)
			p.has(1, group, c.stays)
			p.has(0, group, 1024)
			p.holds(group, c.stays+1024)
		}
	}
}

func TestPutIntoAStockOfAnotherGroup(t *testing.T) { // P13.3
	for _, had := range []int{1, 512, 1023, 1024} {
		for _, groups := range [][2]int{{1, 2}, {2, 1}, {1, 16}, {16, 1}, {16, 15}, {7, 8}} {
			other, group := groups[0], groups[1]
			for _, n := range []int{1, 511, 512, 513, 1023, 1024} { // however full it was: the new group has the stock for itself
				p := in(t, stands{group, 1024}, stands{other, had})
				p.puts(1, group, n, other, had)
				p.has(1, group, n)
				p.has(0, group, 1024)
				p.holds(other, 0)
				p.holds(group, n+1024)
			}
			p := in(t, stands{group, 1024}, stands{other, had})
			p.puts(1, group, 0, other, had)
			p.has(1, 0, 0)
			for _, n := range []int{1025, 1026, 2048, most - 1, most} {
				p := in(t, stands{group, 1024}, stands{other, had})
				p.refuses(1, group, n, api.ErrArg)
				p.has(1, other, had)
			}
		}
	}
}

func TestEveryPut(t *testing.T) { // P13.3: of each number of bytes into each stock, of the same group and of another one
	s := made(t, 2)
	for had := range full + 1 {
		for n := range full + 3 {
			s.Drain(0)
			s.Put(0, 5, had)
			was, over, e := s.Put(0, 5, n)
			wantWas, wantOver, left := 0, 0, stands{5, had + n}
			if had+n > full {
				wantWas, wantOver, left.n = 5, had+n-512, 512
			}
			mustHavePut(t, s, left, was == wantWas && over == wantOver && e == api.OK, had, n)
			s.Drain(0)
			s.Put(0, 5, had)
			was, over, e = s.Put(0, 6, n)
			wantE := api.OK
			wantWas, wantOver, left = 5, had, stands{6, n}
			switch {
			case had == 0 && n > full:
				wantWas, wantOver, left.n = 6, n-512, 512
			case had == 0:
				wantWas = 0
			case n > full:
				wantWas, wantOver, wantE, left = 0, 0, api.ErrArg, stands{5, had}
			}
			mustHavePut(t, s, left, was == wantWas && over == wantOver && e == wantE, had, n)
		}
	}
}

// mustHavePut holds what is left in the first stock behind a Put, and that its results were good.
func mustHavePut(t *testing.T, s *stock.Stock, left stands, isGood bool, had, n int) {
	t.Helper()
	if left.n == 0 {
		left = stands{}
	}
	if !isGood || tells(s) != [8]stands{left} {
		t.Fatalf("Put of %d bytes behind %d: results %v, stocks %v, not %v", n, had, isGood, tells(s), left)
	}
}

func TestPutOfNoBytes(t *testing.T) { // P13.3: 0 bytes are no stock
	p := newPair(t, 2)
	p.puts(0, 4, 0, 0, 0)
	p.has(0, 0, 0)
	p.takes(0, 4, 1, false)
	p.puts(0, 5, 0, 0, 0) // which is another group than nothing
	p.puts(0, 6, 2000, 6, 1488)
	p.puts(0, 6, 0, 0, 0)
	p.has(0, 6, 512)
	p.puts(0, 7, 0, 6, 512)
	p.has(0, 0, 0)
	p.puts(0, 6, 0, 0, 0)
	p.puts(0, 8, 1025, 8, 513) // not refused: what was there of another group is there no more
	p.has(0, 8, 512)
}

func TestPutOfNoNumber(t *testing.T) { // P13.3
	for _, is := range fills() {
		p := in(t, is, is)
		for _, n := range noSizes() {
			for cpu := range 2 {
				for _, group := range []int{1, 2, 3, 16} {
					p.refuses(cpu, group, n, api.ErrArg)
				}
			}
		}
	}
}

func TestOrderOfErrors(t *testing.T) { // P13.3: the processor, then the group, then the number, then what depends on the stock
	cpus, groups := append(noCpus(2), 0, 1), append(noGroups(), 1, 2, 16)
	sizes := append(noSizes(), 0, 1, 1024, 1025, most)
	for _, is := range []stands{{}, {1, 1}, {1, 1024}, {16, 600}} {
		p := in(t, is, is)
		for _, cpu := range cpus {
			for _, group := range groups {
				for _, n := range sizes {
					isCpu, isGroup, isSize := cpu == 0 || cpu == 1, group >= 1 && group <= 16, n >= 0 && n <= most
					switch {
					case !isCpu:
						p.refuses(cpu, group, n, api.ErrRange)
					case !isGroup:
						p.refuses(cpu, group, n, api.ErrGroup)
					case !isSize || is != (stands{}) && group != is.group && n > 1024:
						p.refuses(cpu, group, n, api.ErrArg)
					}
				}
			}
		}
	}
}

func TestStocksThatHaveBecomeEmpty(t *testing.T) { // P13.2, P13.3, P13.4: by Take, by Put and by Drain
	for _, n := range []int{1, 512, 1023, 1024} {
		for _, next := range []int{0, 1, 512, 1024, 1025, most} {
			for way := range 4 {
				p := newPair(t, 1)
				p.puts(0, 3, n, 0, 0)
				switch way {
				case 0:
					p.takes(0, 3, n, true)
				case 1:
					p.puts(0, 4, 0, 3, n)
				case 2:
					p.drains(0, 3, n)
				case 3:
					p.takes(0, 3, 1, true)
					p.drain(0)
				}
				p.has(0, 0, 0)
				p.holds(3, 0)
				p.takes(0, 3, 1, false)
				p.takes(0, 0, 1, false)
				if next > full {
					p.puts(0, 5, next, 5, next-512)
					p.holds(5, 512)
				} else {
					p.puts(0, 5, next, 0, 0) // of another group: nothing has to leave for it
					p.holds(5, next)
				}
			}
		}
	}
}

func TestDrain(t *testing.T) { // P13.4
	for cpus := 1; cpus <= 8; cpus++ {
		for cpu := range cpus {
			for _, n := range []int{1, 512, 1023, 1024} {
				l := make([]stands, cpus)
				for other := range l {
					l[other] = stands{1 + other, 100 + other}
				}
				l[cpu] = stands{16, n}
				p := in(t, l...)
				p.drains(cpu, 16, n)
				p.drains(cpu, 0, 0)
				p.holds(16, 0)
				p.takes(cpu, 16, 1, false)
				for other := range l {
					if other != cpu {
						p.has(other, 1+other, 100+other)
					}
				}
				p.puts(cpu, 15, 3, 0, 0)
				p.drains(cpu, 15, 3)
			}
		}
	}
}

func TestHeld(t *testing.T) { // P13.4: of several processors, with the same group and with different ones
	p := newPair(t, 8)
	for cpu := range 8 {
		p.puts(cpu, 2, 100+cpu, 0, 0)
	}
	p.holds(2, 828)
	p.holds(1, 0)
	p.holds(3, 0)
	p.puts(3, 1, 7, 2, 103)
	p.puts(5, 16, 1024, 2, 105)
	p.puts(7, 1, 9, 2, 107)
	p.holds(2, 513)
	p.holds(1, 16)
	p.holds(16, 1024)
	p.drains(0, 2, 100)
	p.holds(2, 413)
	for cpu := range 8 {
		p.drain(cpu)
		p.puts(cpu, 16, 1024, 0, 0)
	}
	p.holds(16, 8192)
	for _, group := range append(noGroups(), 1, 2, 15) {
		p.holds(group, 0)
	}
}

func TestAskingChangesNothing(t *testing.T) { // P13.4
	p := in(t, stands{3, 9}, stands{}, stands{3, 1024}, stands{16, 1})
	before := tells(p.s)
	for range 3 {
		for _, cpu := range append(noCpus(4), 0, 1, 2, 3) {
			p.s.Has(cpu)
			p.s.Held(cpu)
			p.isAs(before)
		}
		p.holds(3, 1033)
		p.holds(16, 1)
	}
	p.drains(2, 3, 1024)
}

// calls makes each call with each of these arguments on stocks that stand so, made anew for each one, and holds everything against the model.
func calls(t *testing.T, l []stands, groups, sizes []int) {
	t.Helper()
	for cpu := -1; cpu <= len(l); cpu++ {
		for _, group := range groups {
			for _, n := range sizes {
				p := in(t, l...)
				before := tells(p.s)
				_, _, e := p.put(cpu, group, n)
				p.mustChangeOnly(cpu, before, e == api.OK)
				p = in(t, l...)
				is := p.take(cpu, group, n)
				p.mustChangeOnly(cpu, before, is)
			}
		}
		p := in(t, l...)
		before := tells(p.s)
		p.drain(cpu)
		p.mustChangeOnly(cpu, before, true)
	}
}

// mustChangeOnly holds all stocks but the one of a processor against what they were, and that one too if a call was refused.
func (p *pair) mustChangeOnly(cpu int, before [8]stands, may bool) {
	p.t.Helper()
	now := tells(p.s)
	for other := range now {
		if now[other] != before[other] && (other != cpu || !may) {
			p.t.Fatalf("%v, not %v, of processor %d: %s", now[other], before[other], other, p.all())
		}
	}
	p.mustStand()
}

func TestAllCallsOnTwoProcessors(t *testing.T) { // P13.2, P13.3, P13.4, P13.6
	all := []stands{{}}
	for _, group := range []int{1, 16} {
		for _, n := range []int{1, 512, 513, 1024} {
			all = append(all, stands{group, n})
		}
	}
	for _, a := range all {
		for _, b := range all {
			calls(t, []stands{a, b}, []int{-1, 0, 1, 2, 16, 17}, []int{-1, 0, 1, 2, 511, 512, 513, 1023, 1024, 1025, most, most + 1})
		}
	}
}

func TestCallsLeaveOtherProcessorsAlone(t *testing.T) { // P13.2, P13.3, P13.4: each one of eight
	l := []stands{{1, 1024}, {}, {2, 1}, {1, 600}, {16, 1023}, {}, {2, 512}, {16, 1}}
	calls(t, l, []int{0, 1, 2, 16, 17}, []int{-1, 0, 1, 512, 1024, 1025, most, most + 1})
}

func TestErrorsChangeNothing(t *testing.T) { // P13.2, P13.3
	p, q := newPair(t, 4), newPair(t, 4)
	z := noise(13)
	refused := 0
	for range 3000 {
		for _, cpu := range append(noCpus(4), z.next(4)) { // p is asked for what can't be, q is not
			p.take(cpu, noGroups()[z.next(15)], z.size())
			p.take(cpu, 1+z.next(16), noSizes()[z.next(13)])
			p.put(cpu, noGroups()[z.next(15)], z.size())
			p.put(cpu, 1+z.next(16), noSizes()[z.next(13)])
		}
		cpu, group := z.next(4), 1+z.next(3)
		if had, n := q.s.Has(cpu); n > 0 {
			p.take(cpu, had, n+1+z.next(3))
			p.take(cpu, 1+had%16, 1)
			if _, _, e := p.put(cpu, 1+had%16, 1025+z.next(3)); e == api.ErrArg {
				refused++
			}
		}
		p.isAs(tells(q.s))
		n := z.size()
		p.put(cpu, group, n)
		q.put(cpu, group, n)
		p.isAs(tells(q.s))
	}
	if refused < 500 {
		t.Error("too few were refused:", refused)
	}
}

// ledger is what went in and out, of each group, by what the stocks themselves tell.
type ledger [17]int

// mustAgree holds P13.5: all that was put and did not leave is held.
func (l *ledger) mustAgree(t *testing.T, s *stock.Stock) {
	t.Helper()
	for group := range l {
		if got := s.Held(group); got != l[group] {
			t.Fatalf("Held(%d): %d, not %d (P13.5)", group, got, l[group])
		}
	}
}

// call makes one call, without the model, and writes down what went in and out.
func (l *ledger) call(s *stock.Stock, z *noise, cpus, groups int) {
	cpu, group, n := z.next(cpus+2)-1, z.next(groups+2), z.size()-z.next(2)
	switch z.next(8) {
	case 0, 1:
		if s.Take(cpu, group, n) {
			l[group] -= n
		}
	case 2:
		if z.next(4) == 0 {
			out, many := s.Drain(cpu)
			l[out] -= many
		}
	default:
		if was, over, e := s.Put(cpu, group, n); e == api.OK {
			l[group] += n
			l[was] -= over
		}
	}
}

func TestWhatWasPutIsHeld(t *testing.T) { // P13.5, P13.6
	for cpus := 1; cpus <= 8; cpus++ {
		for groups := 1; groups <= 15; groups += 2 {
			s, z := made(t, cpus), noise(20*cpus+groups)
			var l ledger
			for range 2000 {
				l.call(s, &z, cpus, groups)
				l.mustAgree(t, s)
				mustBeStocks(t, s, func() string { return "of many calls" })
			}
			for cpu := range cpus { // in the end nothing is left, anywhere
				group, n := s.Drain(cpu)
				l[group] -= n
			}
			l.mustAgree(t, s)
			if l != (ledger{}) {
				t.Fatal(l)
			}
		}
	}
}

func TestWhatIsHeldIsWhatStocksHave(t *testing.T) { // P13.4, P13.5
	z := noise(3)
	for cpus := 1; cpus <= 8; cpus++ {
		s := made(t, cpus)
		var none ledger
		for range 2000 {
			none.call(s, &z, cpus, 4)
			var sums ledger
			for _, is := range tells(s) {
				sums[is.group] += is.n
			}
			sums.mustAgree(t, s)
		}
	}
}

func TestManyCalls(t *testing.T) { // P13.2 to P13.6, against the model
	count := map[string]int{}
	for seed := range 80 {
		z := noise(seed)
		cpus, groups := 1+z.next(8), 1+z.next(4)
		p := newPair(t, cpus)
		for range 400 {
			cpu, group, n := z.next(cpus+1)-z.next(2), 1+z.next(groups+1)-z.next(2), z.size()
			before := tells(p.s)
			switch z.next(7) {
			case 0, 1, 2:
				if had, many := p.s.Has(cpu); z.next(2) == 0 {
					group, n = had, many-z.next(3)+1
				}
				is := p.take(cpu, group, n)
				p.mustChangeOnly(cpu, before, is)
				count["take "+strconv.FormatBool(is)]++
			case 3:
				p.drain(cpu)
				p.mustChangeOnly(cpu, before, true)
			default:
				was, over, e := p.put(cpu, group, n-z.next(2))
				p.mustChangeOnly(cpu, before, e == api.OK)
				count["put "+strconv.Itoa(int(e))]++
				if over > 0 {
					count["over "+strconv.FormatBool(was == group)]++
				}
			}
		}
	}
	for _, sort := range []string{"take true", "take false", "put 0", "put 2", "put 9", "over true", "over false"} {
		if count[sort] < 300 {
			t.Error("too few of some sort:", count)
		}
	}
}

func TestChargesAreWhatIsOutAndInStock(t *testing.T) { // P13.5: what groups are charged for (W3) if stocks are filled by what is given back
	tr, c := tree.New(), charge.New()
	for _, parent := range []int{1, 1, 2, 4} {
		if _, e := tr.Add(parent); e != api.OK {
			t.Fatal(e)
		}
	}
	s, z := made(t, 3), noise(8)
	out := [6]int{} // what is owned by each group
	taken := 0
	for range 4000 {
		cpu, group, n := z.next(3), 2+z.next(4), 1+z.next(400)
		if n <= out[group] && z.next(2) == 0 {
			was, over, e := s.Put(cpu, group, n)
			if e != api.OK {
				t.Fatal(e)
			}
			if e := c.Back(tr.Path(was), over); over > 0 && e != api.OK {
				t.Fatal(e)
			}
			out[group] -= n
		} else if s.Take(cpu, group, n) {
			out[group] += n
			taken++
		} else if _, e := c.Try(tr.Path(group), n); e == api.OK {
			out[group] += n
		}
		for top := 1; top <= 5; top++ {
			sum := 0
			for group := 1; group <= 5; group++ {
				if tr.Below(group, top) {
					sum += out[group] + s.Held(group)
				}
			}
			if got := c.Used(top); got != sum {
				t.Fatalf("Used(%d): %d, not %d", top, got, sum)
			}
		}
	}
	if taken < 200 {
		t.Error("too few were taken from a stock:", taken)
	}
}

func TestStocksShareNothing(t *testing.T) { // R2: each is held against a model of its own
	z := noise(5)
	pairs := []*pair{newPair(t, 3), newPair(t, 3), newPair(t, 8)}
	for range 1500 {
		p := pairs[z.next(3)]
		cpu, group, n := z.next(3), 1+z.next(2), z.size()
		switch z.next(6) {
		case 0:
			p.drain(cpu)
		case 1, 2:
			p.take(cpu, group, n)
		default:
			p.put(cpu, group, n)
		}
		for _, q := range pairs {
			q.mustStand()
		}
	}
	p := newPair(t, 3) // nor does a new one have anything of them
	p.mustStand()
}

func TestSameAnswersEachTime(t *testing.T) { // R2: the same calls tell the same, whatever is asked in between
	z := noise(7)
	p, q := newPair(t, 3), newPair(t, 3)
	for range 1500 {
		cpu, group, n := z.next(3), 1+z.next(2), z.size()
		was, over, e := p.put(cpu, group, n)
		for range 3 {
			q.s.Has(z.next(3))
			q.s.Held(z.next(3))
		}
		if qWas, qOver, qE := q.put(cpu, group, n); qWas != was || qOver != over || qE != e {
			t.Fatal(was, over, e, qWas, qOver, qE)
		}
		group, n = 1+z.next(2), z.size()
		if p.take(cpu, group, n) != q.take(cpu, group, n) || tells(p.s) != tells(q.s) {
			t.Fatal(p.all(), q.all())
		}
	}
}

func TestExamples(t *testing.T) { // the chapter's
	p := newPair(t, 1)
	p.puts(0, 2, 100, 0, 0)
	p.takes(0, 2, 40, true)
	p.takes(0, 3, 1, false)
	p.has(0, 2, 60)
	p.puts(0, 3, 5, 2, 60)
	p.holds(2, 0)
	p.puts(0, 3, 1020, 3, 513)
	p.has(0, 3, 512)
	p.drains(0, 3, 512)
	p.drains(0, 0, 0)
	p.refuses(0, 17, 1, api.ErrGroup)
}
