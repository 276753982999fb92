package grace_test

import (
	"math"
	"slices"
	"strconv"
	"strings"
	"testing"

	"wainscot/api"
	"wainscot/grace"
)

// The tests hold the package against the chapter said a second time, in another way: grace periods of the model have no numbers, a record knows the one for which it waits, and a grace period knows the reports that it got. Beside it a watch holds each record against P10.7 and P10.9, for which it needs no grace periods at all.

// period is a grace period of the model, also one that has not begun.
type period struct{ reports map[int]bool }

// record is one that was called and not polled.
type record struct {
	id    int
	until *period
}

// model is a machine of the tests.
type model struct {
	depths  []int
	records [][]record
	begun   []*period // of which the last one may be in progress
	later   *period   // the one for which records wait that were called while another one was in progress
}

func newModel(cpus int) *model {
	return &model{depths: make([]int, cpus), records: make([][]record, cpus)}
}

func newPeriod() *period { return &period{map[int]bool{}} }

// isCpu tells whether a processor exists.
func (m *model) isCpu(cpu int) bool { return 0 <= cpu && cpu < len(m.depths) }

// isOver tells whether a grace period has ended.
func (m *model) isOver(p *period) bool { return len(p.reports) == len(m.depths) }

// current is the grace period in progress, if there is one.
func (m *model) current() *period {
	if many := len(m.begun); many > 0 && !m.isOver(m.begun[many-1]) {
		return m.begun[many-1]
	}
	return nil
}

// lock is what Lock has to do.
func (m *model) lock(cpu int) api.Errno {
	if !m.isCpu(cpu) {
		return api.ErrRange
	}
	if m.depths[cpu] == 8 {
		return api.ErrLimit
	}
	m.depths[cpu]++
	return api.OK
}

// unlock is what Unlock has to do.
func (m *model) unlock(cpu int) api.Errno {
	if !m.isCpu(cpu) {
		return api.ErrRange
	}
	if m.depths[cpu] == 0 {
		return api.ErrState
	}
	m.depths[cpu]--
	return api.OK
}

// quiet is what Quiet has to do.
func (m *model) quiet(cpu int) api.Errno {
	if !m.isCpu(cpu) {
		return api.ErrRange
	}
	if m.depths[cpu] != 0 {
		return api.ErrState
	}
	if p := m.current(); p != nil {
		p.reports[cpu] = true
	}
	if m.current() == nil && m.later != nil {
		m.begun = append(m.begun, m.later)
		m.later = nil
	}
	return api.OK
}

// call is what Call has to do.
func (m *model) call(cpu, id int) api.Errno {
	if !m.isCpu(cpu) {
		return api.ErrRange
	}
	if id < 0 || id >= beyond {
		return api.ErrArg
	}
	if len(m.records[cpu]) == 256 {
		return api.ErrLimit
	}
	until := m.later
	switch {
	case m.current() == nil:
		until = newPeriod()
		m.begun = append(m.begun, until)
	case until == nil:
		until = newPeriod()
		m.later = until
	}
	m.records[cpu] = append(m.records[cpu], record{id, until})
	return api.OK
}

// poll is what Poll has to do.
func (m *model) poll(cpu int) ([]int, api.Errno) {
	if !m.isCpu(cpu) {
		return nil, api.ErrRange
	}
	var ids []int
	var rest []record
	for _, x := range m.records[cpu] {
		if m.isOver(x.until) {
			ids = append(ids, x.id)
		} else {
			rest = append(rest, x)
		}
	}
	m.records[cpu] = rest
	return ids, api.OK
}

// ended is how many grace periods have ended.
func (m *model) ended() int {
	many := 0
	for _, p := range m.begun {
		if m.isOver(p) {
			many++
		}
	}
	return many
}

// isWanted tells whether a report of a processor is waited for.
func (m *model) isWanted(cpu int) bool {
	p := m.current()
	return m.isCpu(cpu) && p != nil && !p.reports[cpu]
}

// key tells states apart: those of one key go on alike.
func (m *model) key() string {
	var b strings.Builder
	for cpu, depth := range m.depths {
		b.WriteString(strconv.Itoa(depth) + strconv.FormatBool(m.isWanted(cpu))[:1])
		for _, x := range m.records[cpu] {
			switch {
			case m.isOver(x.until):
				b.WriteByte('-')
			case x.until == m.current():
				b.WriteByte('o')
			default:
				b.WriteByte('+')
			}
		}
		b.WriteByte(' ')
	}
	return b.String()
}

// watched is a record, with what has to happen ahead of its being polled.
type watched struct {
	id     int
	reads  map[int]bool // the processors whose sections were open, and have not been closed since
	lacks  map[int]bool // the processors that have not reported since
	called int          // its place among all calls
}

// watch follows the records of a machine (P10.7, P10.9).
type watch struct {
	depths []int
	waits  [][]watched
	calls  int
}

// call is a record that was called.
func (w *watch) call(cpu, id int) {
	x := watched{id, map[int]bool{}, map[int]bool{}, w.calls}
	w.calls++
	for other, depth := range w.depths {
		x.lacks[other] = true
		if depth > 0 {
			x.reads[other] = true
		}
	}
	w.waits[cpu] = append(w.waits[cpu], x)
}

// each does something with all records that wait.
func (w *watch) each(do func(x watched)) {
	for _, l := range w.waits {
		for _, x := range l {
			do(x)
		}
	}
}

// lock is a section that was opened.
func (w *watch) lock(cpu int) { w.depths[cpu]++ }

// unlock is a section that was closed.
func (w *watch) unlock(cpu int) {
	w.depths[cpu]--
	if w.depths[cpu] == 0 {
		w.each(func(x watched) { delete(x.reads, cpu) })
	}
}

// quiet is a report that was made.
func (w *watch) quiet(cpu int) {
	w.each(func(x watched) { delete(x.lacks, cpu) })
}

// poll is some ids that were polled, and tells what is wrong with them.
func (w *watch) poll(cpu int, ids []int) string {
	for _, id := range ids {
		if len(w.waits[cpu]) == 0 {
			return "more records than were called (P10.9)"
		}
		x := w.waits[cpu][0]
		w.waits[cpu] = w.waits[cpu][1:]
		if x.id != id {
			return "not in the order in which they were called (P10.9)"
		}
		if len(x.reads) > 0 || len(x.lacks) > 0 {
			return "too early for record " + strconv.Itoa(x.called) + " (P10.7)"
		}
	}
	return ""
}

// pair is a machine and its model, which are always called together.
type pair struct {
	t    *testing.T
	g    *grace.Grace
	m    *model
	w    *watch
	done []string // the calls so far
}

// made is a new machine.
func made(t *testing.T, cpus int) *grace.Grace {
	t.Helper()
	g, e := grace.New(cpus)
	if g == nil || e != api.OK {
		t.Fatalf("New(%d): %v, %d", cpus, g, e)
	}
	return g
}

// newPair is a new machine and its model.
func newPair(t *testing.T, cpus int) *pair {
	t.Helper()
	return &pair{t, made(t, cpus), newModel(cpus), &watch{make([]int, cpus), make([][]watched, cpus), 0}, nil}
}

// hold holds an error against the model.
func (p *pair) hold(call string, cpu int, got, want api.Errno) api.Errno {
	p.t.Helper()
	p.done = append(p.done, call+strconv.Itoa(cpu))
	if got != want {
		p.t.Fatalf("%d of %d processors: %d, not %d: %s", cpu, len(p.m.depths), got, want, p.last())
	}
	return got
}

// last is the last calls, for what is told of a fault.
func (p *pair) last() string {
	from := max(0, len(p.done)-40)
	return "after " + strconv.Itoa(from) + " calls: " + strings.Join(p.done[from:], " ")
}

// lock locks, and holds the result against the model.
func (p *pair) lock(cpu int) api.Errno {
	p.t.Helper()
	e := p.hold("lock", cpu, p.g.Lock(cpu), p.m.lock(cpu))
	if e == api.OK {
		p.w.lock(cpu)
	}
	return e
}

// unlock unlocks, and holds the result against the model.
func (p *pair) unlock(cpu int) api.Errno {
	p.t.Helper()
	e := p.hold("unlock", cpu, p.g.Unlock(cpu), p.m.unlock(cpu))
	if e == api.OK {
		p.w.unlock(cpu)
	}
	return e
}

// quiet reports, and holds the result against the model.
func (p *pair) quiet(cpu int) api.Errno {
	p.t.Helper()
	e := p.hold("quiet", cpu, p.g.Quiet(cpu), p.m.quiet(cpu))
	if e == api.OK {
		p.w.quiet(cpu)
	}
	return e
}

// call calls a record, and holds the result against the model.
func (p *pair) call(cpu, id int) api.Errno {
	p.t.Helper()
	e := p.hold("call"+strconv.Itoa(id)+"/", cpu, p.g.Call(cpu, id), p.m.call(cpu, id))
	if e == api.OK {
		p.w.call(cpu, id)
	}
	return e
}

// poll polls, holds the result against the model and the properties, and writes all over it, so that whatever shares its memory goes wrong.
func (p *pair) poll(cpu int) ([]int, api.Errno) {
	p.t.Helper()
	got, e := p.g.Poll(cpu)
	want, wantE := p.m.poll(cpu)
	p.hold("poll", cpu, e, wantE)
	if !slices.Equal(got, want) {
		p.t.Fatalf("Poll(%d) of %d processors: %v, not %v: %s", cpu, len(p.m.depths), got, want, p.last())
	}
	if fault := p.w.poll(cpu, got); fault != "" {
		p.t.Fatalf("Poll(%d) of %d processors: %v: %s: %s", cpu, len(p.m.depths), got, fault, p.last())
	}
	spoil(got)
	return want, e
}

// spoil writes all over the memory of a result, its unused capacity included.
func spoil(l []int) {
	all := l[:cap(l)]
	for at := range all {
		all[at] = -81
	}
}

// mustStand holds everything that is told of a machine against the model.
func (p *pair) mustStand() {
	p.t.Helper()
	if ended, going := p.g.Done(); ended != p.m.ended() || going != (p.m.current() != nil) {
		p.t.Fatalf("Done: %d, %v, not %d, %v: %s", ended, going, p.m.ended(), p.m.current() != nil, p.last())
	}
	for cpu := -1; cpu <= len(p.m.depths); cpu++ {
		depth, waits := 0, 0
		if p.m.isCpu(cpu) {
			depth, waits = p.m.depths[cpu], len(p.m.records[cpu])
		}
		if got := p.g.Depth(cpu); got != depth {
			p.t.Fatalf("Depth(%d): %d, not %d: %s", cpu, got, depth, p.last())
		}
		if got := p.g.Waits(cpu); got != waits {
			p.t.Fatalf("Waits(%d): %d, not %d: %s", cpu, got, waits, p.last())
		}
		if got := p.g.Wanted(cpu); got != p.m.isWanted(cpu) {
			p.t.Fatalf("Wanted(%d): %v: %s", cpu, got, p.last())
		}
	}
}

// is holds an error against the one that the test says itself.
func (p *pair) is(got, want api.Errno) {
	p.t.Helper()
	if got != want {
		p.t.Fatalf("%d, not %d: %s", got, want, p.last())
	}
	p.mustStand()
}

// ok holds errors against none.
func (p *pair) ok(es ...api.Errno) {
	p.t.Helper()
	for _, e := range es {
		p.is(e, api.OK)
	}
}

// polls polls, and holds the ids against those that the test says itself.
func (p *pair) polls(cpu int, want ...int) {
	p.t.Helper()
	got, e := p.poll(cpu)
	if !slices.Equal(got, want) || e != api.OK {
		p.t.Fatalf("Poll(%d): %v, %d, not %v: %s", cpu, got, e, want, p.last())
	}
	p.mustStand()
}

// stands holds Done and Wanted against what the test says itself: how many have ended, whether one is in progress, and whose reports it waits for.
func (p *pair) stands(ended int, going bool, wanted ...int) {
	p.t.Helper()
	p.mustStand()
	if got, is := p.g.Done(); got != ended || is != going {
		p.t.Fatalf("Done: %d, %v, not %d, %v: %s", got, is, ended, going, p.last())
	}
	for cpu := range p.m.depths {
		if got := p.g.Wanted(cpu); got != slices.Contains(wanted, cpu) {
			p.t.Fatalf("Wanted(%d): %v, but wanted are %v: %s", cpu, got, wanted, p.last())
		}
	}
}

// depth holds a depth against what the test says itself.
func (p *pair) depth(cpu, want int) {
	p.t.Helper()
	p.mustStand()
	if got := p.g.Depth(cpu); got != want {
		p.t.Fatalf("Depth(%d): %d, not %d: %s", cpu, got, want, p.last())
	}
}

// waits holds the number of waiting records against what the test says itself.
func (p *pair) waits(cpu, want int) {
	p.t.Helper()
	p.mustStand()
	if got := p.g.Waits(cpu); got != want {
		p.t.Fatalf("Waits(%d): %d, not %d: %s", cpu, got, want, p.last())
	}
}

// all reports for processors, in that order.
func (p *pair) all(cpus ...int) {
	p.t.Helper()
	for _, cpu := range cpus {
		p.ok(p.quiet(cpu))
	}
}

// beyond is the least number that is too great for an id.
const beyond = 9007199254740992

// ints are many, the ends of int among them.
func ints() []int {
	return []int{
		math.MinInt, math.MinInt + 1, -beyond, math.MinInt32, -256, -9, -8, -2, -1, 0, 1, 2, 3, 6, 7, 8, 9, 10, 255, 256, 257, math.MaxInt32,
		1 << 32, 1<<32 + 1, beyond - 2, beyond - 1, beyond, beyond + 1, math.MaxInt - 1, math.MaxInt,
	}
}

// noCpus are processors that do not exist where there are so many.
func noCpus(cpus int) []int {
	return []int{math.MinInt, math.MinInt + 1, -8, -2, -1, cpus, cpus + 1, cpus + 8, 64, 1 << 32, 1<<32 + 1, math.MaxInt - 1, math.MaxInt}
}

// badIds are ids that a record may not have.
func badIds() []int {
	return []int{math.MinInt, math.MinInt + 1, -beyond, math.MinInt32, -2, -1, beyond, beyond + 1, math.MaxInt - 1, math.MaxInt}
}

// upTo are the numbers from one to another one.
func upTo(from, to int) []int {
	var l []int
	for i := from; i <= to; i++ {
		l = append(l, i)
	}
	return l
}

// noise gives numbers without a pattern, the same ones each time.
type noise uint64

func (n *noise) next(below int) int {
	*n = *n*6364136223846793005 + 1442695040888963407
	return int(uint64(*n)>>33) % below
}

// shuffled is the processors in another order.
func (n *noise) shuffled(cpus int) []int {
	l := upTo(0, cpus-1)
	for i := range l {
		j := i + n.next(len(l)-i)
		l[i], l[j] = l[j], l[i]
	}
	return l
}

// orders are all orders of some processors.
func orders(cpus int) [][]int {
	all := [][]int{nil}
	for next := range cpus {
		var longer [][]int
		for _, l := range all {
			for place := range len(l) + 1 {
				longer = append(longer, slices.Insert(slices.Clone(l), place, next))
			}
		}
		all = longer
	}
	return all
}

// The calls of a step.
const (
	lock = iota
	unlock
	quiet
	call
	poll
	kinds
)

// step is a call of a machine.
type step struct{ kind, cpu int }

// do makes a call; the ids of records are all different.
func (p *pair) do(s step) {
	p.t.Helper()
	switch s.kind {
	case lock:
		p.lock(s.cpu)
	case unlock:
		p.unlock(s.cpu)
	case quiet:
		p.quiet(s.cpu)
	case call:
		p.call(s.cpu, 100+len(p.done))
	case poll:
		p.poll(s.cpu)
	}
}

// after is a machine of which some calls were made.
func after(t *testing.T, cpus int, steps []step) *pair {
	t.Helper()
	p := newPair(t, cpus)
	for _, s := range steps {
		p.do(s)
	}
	return p
}

// isWithin tells whether a state is one of those that are gone through.
func (m *model) isWithin(depth, records int) bool {
	for cpu := range m.depths {
		if m.depths[cpu] > depth || len(m.records[cpu]) > records {
			return false
		}
	}
	return true
}

// states are calls that lead to all states of so many processors, up to some depth and some records of a processor. Each call in each of these states is held against the model on the way.
func states(t *testing.T, cpus, depth, records int) [][]step {
	t.Helper()
	seen := map[string]bool{newModel(cpus).key(): true}
	all := [][]step{nil}
	for at := 0; at < len(all); at++ {
		for kind := range kinds {
			for cpu := range cpus {
				steps := append(slices.Clone(all[at]), step{kind, cpu})
				p := after(t, cpus, steps)
				p.mustStand()
				if key := p.m.key(); !seen[key] && p.m.isWithin(depth, records) {
					seen[key] = true
					all = append(all, steps)
				}
			}
		}
	}
	return all
}

// closeAll ends all sections.
func (p *pair) closeAll() {
	p.t.Helper()
	for cpu := range p.m.depths {
		for p.m.depths[cpu] > 0 {
			p.ok(p.unlock(cpu))
		}
	}
}

// mustPollAll holds P10.8 for two rounds: whatever waits is polled.
func (p *pair) mustPollAll(first, second []int) {
	p.t.Helper()
	p.all(first...)
	p.all(second...)
	for cpu := range p.m.depths {
		many := p.g.Waits(cpu)
		if ids, e := p.poll(cpu); len(ids) != many || e != api.OK {
			p.t.Fatalf("Poll(%d) after two rounds %v, %v: %v, %d, but %d records waited: %s", cpu, first, second, ids, e, many, p.last())
		}
		p.waits(cpu, 0)
	}
	if _, going := p.g.Done(); going {
		p.t.Fatalf("after two rounds %v, %v a grace period is in progress: %s", first, second, p.last())
	}
}

func TestNew(t *testing.T) { // P10.1, R1
	good := 0
	for _, cpus := range ints() {
		g, e := grace.New(cpus)
		if cpus < 1 || cpus > 8 {
			if g != nil || e != api.ErrArg {
				t.Errorf("New(%d): %v, %d, not nothing, ErrArg", cpus, g, e)
			}
			continue
		}
		good++
		if g == nil || e != api.OK {
			t.Errorf("New(%d): %v, %d", cpus, g, e)
		}
	}
	if good != 6 {
		t.Error("numbers that are good:", good)
	}
}

func TestNewStands(t *testing.T) { // P10.1, P10.6
	for cpus := 1; cpus <= 8; cpus++ {
		p := newPair(t, cpus)
		p.stands(0, false)
		for cpu := range cpus {
			p.depth(cpu, 0)
			p.waits(cpu, 0)
			p.is(p.unlock(cpu), api.ErrState)
			p.polls(cpu)
			p.ok(p.quiet(cpu))
		}
		p.stands(0, false)
	}
}

func TestNone(t *testing.T) { // a nil and a zero Grace, R1
	zero := &grace.Grace{}
	for range 2 {
		for name, g := range map[string]*grace.Grace{"nil": nil, "zero": zero, "another zero one": new(grace.Grace)} {
			for _, cpu := range ints() {
				for _, e := range []api.Errno{g.Lock(cpu), g.Unlock(cpu), g.Quiet(cpu), g.Call(cpu, 7), g.Call(cpu, -1), g.Call(cpu, beyond)} {
					if e != api.ErrNil {
						t.Errorf("%s, %d: %d", name, cpu, e)
					}
				}
				if ids, e := g.Poll(cpu); len(ids) != 0 || e != api.ErrNil {
					t.Errorf("%s: Poll(%d): %v, %d", name, cpu, ids, e)
				}
				if g.Depth(cpu) != 0 || g.Waits(cpu) != 0 || g.Wanted(cpu) {
					t.Errorf("%s: %d: %d, %d, %v", name, cpu, g.Depth(cpu), g.Waits(cpu), g.Wanted(cpu))
				}
			}
			if ended, going := g.Done(); ended != 0 || going {
				t.Errorf("%s: Done: %d, %v", name, ended, going)
			}
		}
	}
}

func TestNoSuchProcessor(t *testing.T) { // ErrRange, ahead of every other error
	for cpus := 1; cpus <= 8; cpus++ {
		p := newPair(t, cpus)
		for round := range 3 {
			for _, cpu := range noCpus(cpus) {
				p.is(p.lock(cpu), api.ErrRange)
				p.is(p.unlock(cpu), api.ErrRange)
				p.is(p.quiet(cpu), api.ErrRange)
				p.is(p.call(cpu, 7), api.ErrRange)
				for _, id := range badIds() {
					p.is(p.call(cpu, id), api.ErrRange)
				}
				if ids, e := p.poll(cpu); len(ids) != 0 || e != api.ErrRange {
					t.Fatalf("Poll(%d): %v, %d", cpu, ids, e)
				}
				if p.g.Depth(cpu) != 0 || p.g.Waits(cpu) != 0 || p.g.Wanted(cpu) {
					t.Fatalf("%d of %d: %d, %d, %v", cpu, cpus, p.g.Depth(cpu), p.g.Waits(cpu), p.g.Wanted(cpu))
				}
			}
			for cpu := range cpus { // that the others have much of everything tells nothing of these
				p.ok(p.lock(cpu), p.call(cpu, round), p.call(cpu, round))
			}
		}
		p.stands(0, true, upTo(0, cpus-1)...)
	}
}

func TestProcessorsExist(t *testing.T) {
	for cpus := 1; cpus <= 8; cpus++ {
		p := newPair(t, cpus)
		for cpu := range cpus {
			p.ok(p.lock(cpu), p.unlock(cpu), p.quiet(cpu), p.call(cpu, cpu))
			p.polls(cpu)
		}
	}
}

func TestDepths(t *testing.T) { // P10.2, P10.6
	for _, cpus := range []int{1, 2, 8} {
		for cpu := range cpus {
			p := newPair(t, cpus)
			for range 2 {
				for depth := range 8 {
					p.ok(p.lock(cpu))
					p.depth(cpu, depth+1)
				}
				for range 3 {
					p.is(p.lock(cpu), api.ErrLimit)
					p.depth(cpu, 8)
				}
				p.ok(p.unlock(cpu), p.lock(cpu))
				p.is(p.lock(cpu), api.ErrLimit)
				for depth := 7; depth >= 0; depth-- {
					p.ok(p.unlock(cpu))
					p.depth(cpu, depth)
				}
				for range 3 {
					p.is(p.unlock(cpu), api.ErrState)
					p.depth(cpu, 0)
				}
			}
		}
	}
}

func TestDepthsAreEachTheirOwn(t *testing.T) { // P10.2
	p := newPair(t, 8)
	for cpu := range 8 {
		for range cpu {
			p.ok(p.lock(cpu))
		}
	}
	for cpu := range 8 {
		p.depth(cpu, cpu)
	}
	p.is(p.unlock(0), api.ErrState)
	p.ok(p.lock(7))
	p.is(p.lock(7), api.ErrLimit)
	p.ok(p.lock(6))
	p.depth(6, 7)
	p.depth(7, 8)
}

func TestSectionsStopNobodyElse(t *testing.T) { // P10.2, P10.3: only Quiet of that processor asks for its depth
	p := newPair(t, 2)
	for range 8 {
		p.ok(p.lock(0))
	}
	p.ok(p.call(0, 5), p.quiet(1), p.call(1, 6))
	p.is(p.quiet(0), api.ErrState)
	p.polls(0)
	p.stands(0, true, 0)
	p.depth(0, 8)
}

func TestIds(t *testing.T) { // P10.3
	for _, cpu := range []int{0, 1} {
		p := newPair(t, 2)
		for _, id := range badIds() { // the first one would let a grace period begin
			p.is(p.call(cpu, id), api.ErrArg)
			p.stands(0, false)
			p.waits(cpu, 0)
		}
		good := []int{0, 1, 2, 255, 256, 257, math.MaxInt32, math.MaxInt32 + 1, 1 << 32, beyond - 2, beyond - 1}
		for i, id := range good {
			p.ok(p.call(cpu, id))
			p.waits(cpu, i+1)
			for _, id := range badIds() {
				p.is(p.call(cpu, id), api.ErrArg)
			}
			p.waits(cpu, i+1)
		}
		p.all(0, 1)
		p.polls(cpu, good[0])
		p.all(1, 0)
		p.polls(cpu, good[1:]...)
		p.stands(2, false)
	}
}

func TestMaxNumber(t *testing.T) { // P10.3: an id alone, as the first record of all
	for _, id := range []int{0, api.MaxNumber} {
		p := newPair(t, 1)
		p.ok(p.call(0, id), p.quiet(0))
		p.polls(0, id)
	}
	for _, id := range []int{-1, api.MaxNumber + 1} {
		p := newPair(t, 1)
		p.is(p.call(0, id), api.ErrArg)
	}
}

func TestSameIds(t *testing.T) { // P10.3, P10.5, P10.9: they are records of their own
	p := newPair(t, 2)
	p.ok(p.call(0, 7), p.call(0, 7), p.call(1, 7), p.call(0, 7), p.call(0, 7))
	p.waits(0, 4)
	p.waits(1, 1)
	p.all(0, 1)
	p.polls(0, 7)
	p.polls(1)
	p.all(0, 1)
	p.polls(0, 7, 7, 7)
	p.polls(1, 7)
	p.ok(p.call(0, 7))
	p.all(0, 1)
	p.polls(0, 7)
}

func TestFull(t *testing.T) { // P10.3
	for _, cpus := range []int{1, 2, 8} {
		for _, cpu := range []int{0, cpus - 1} {
			p := newPair(t, cpus)
			for many := range 256 {
				p.waits(cpu, many)
				p.ok(p.call(cpu, 1000+many))
			}
			for _, id := range []int{0, 1000, 1256, beyond - 1} {
				p.is(p.call(cpu, id), api.ErrLimit)
				p.waits(cpu, 256)
			}
			for _, id := range badIds() {
				p.is(p.call(cpu, id), api.ErrArg)
			}
			p.is(p.call(-1, 5), api.ErrRange)
			p.is(p.call(cpus, -1), api.ErrRange)
			p.stands(0, true, upTo(0, cpus-1)...)
			p.waits(cpu, 256)
			p.all(upTo(0, cpus-1)...)
			p.is(p.call(cpu, 5), api.ErrLimit) // one has waited enough, but waits until it is polled
			p.polls(cpu, 1000)
			p.ok(p.call(cpu, 5))
			p.is(p.call(cpu, 6), api.ErrLimit)
			p.all(upTo(0, cpus-1)...)
			p.polls(cpu, upTo(1001, 1255)...)
			p.waits(cpu, 1)
			p.all(upTo(0, cpus-1)...)
			p.polls(cpu, 5)
		}
	}
}

func TestFullBesideOthers(t *testing.T) { // P10.3: of each processor 256
	p := newPair(t, 3)
	for many := range 256 {
		p.ok(p.call(1, many))
	}
	p.is(p.call(1, 256), api.ErrLimit)
	for many := range 256 {
		p.ok(p.call(0, many), p.call(2, many))
	}
	for cpu := range 3 {
		p.is(p.call(cpu, 256), api.ErrLimit)
		p.waits(cpu, 256)
	}
	p.all(2, 1, 0)
	p.polls(1, 0)
	p.polls(0)
	p.polls(2)
	p.ok(p.call(1, 256))
	p.is(p.call(0, 256), api.ErrLimit)
	p.is(p.call(1, 257), api.ErrLimit)
	p.is(p.call(2, 256), api.ErrLimit)
}

func TestErrorsBeginNothing(t *testing.T) { // P10.3: with a queue that is full of records that could be polled
	p := newPair(t, 2)
	for many := range 256 {
		p.ok(p.call(0, many))
	}
	p.all(0, 1, 0, 1)
	p.stands(2, false)
	p.waits(0, 256)
	p.is(p.call(0, 5), api.ErrLimit)
	p.is(p.call(0, -1), api.ErrArg)
	p.is(p.call(0, beyond), api.ErrArg)
	p.is(p.call(2, 5), api.ErrRange)
	p.stands(2, false)
	p.ok(p.call(1, 5))
	p.stands(2, true, 0, 1)
	p.polls(0, upTo(0, 255)...)
}

func TestCallBegins(t *testing.T) { // P10.3: none is in progress
	for cpus := 1; cpus <= 8; cpus++ {
		for cpu := range cpus {
			p := newPair(t, cpus)
			for round := range 3 {
				p.stands(round, false)
				p.ok(p.call(cpu, round))
				p.stands(round, true, upTo(0, cpus-1)...)
				p.all(upTo(0, cpus-1)...)
				p.stands(round+1, false)
				p.polls(cpu, round)
			}
		}
	}
}

func TestCallWhileOneIsInProgress(t *testing.T) { // P10.3: it waits for the one after it
	p := newPair(t, 2)
	p.ok(p.call(0, 5), p.call(0, 6), p.call(1, 7)) // no processor has reported
	p.stands(0, true, 0, 1)
	p.ok(p.quiet(1))
	p.stands(0, true, 0)
	p.ok(p.call(1, 8)) // some have
	p.stands(0, true, 0)
	p.ok(p.quiet(0))
	p.stands(1, true, 0, 1)
	p.polls(1)
	p.polls(0, 5)
	p.ok(p.call(0, 9)) // the next one has begun
	p.ok(p.quiet(0), p.call(1, 10))
	p.ok(p.quiet(1))
	p.stands(2, true, 0, 1)
	p.polls(0, 6)
	p.polls(1, 7, 8)
	p.all(1, 0)
	p.stands(3, false)
	p.polls(0, 9)
	p.polls(1, 10)
}

func TestReports(t *testing.T) { // P10.4: each of eight processors is waited for once, in any order
	n := noise(4)
	for range 40 {
		p := newPair(t, 8)
		p.ok(p.call(n.next(8), 1))
		wanted := n.shuffled(8)
		for len(wanted) > 0 {
			p.stands(0, true, wanted...)
			p.ok(p.quiet(wanted[0]), p.quiet(wanted[0])) // the second report changes nothing
			wanted = wanted[1:]
		}
		p.stands(1, false)
		p.all(n.shuffled(8)...)
		p.stands(1, false)
	}
}

func TestQuietAtADepth(t *testing.T) { // P10.4
	for depth := 1; depth <= 8; depth++ {
		p := newPair(t, 2)
		for range depth {
			p.ok(p.lock(0))
		}
		p.is(p.quiet(0), api.ErrState) // none is in progress
		p.stands(0, false)
		p.ok(p.call(1, 5))
		p.is(p.quiet(0), api.ErrState)
		p.stands(0, true, 0, 1)
		p.ok(p.quiet(1))
		for left := depth; left > 0; left-- {
			p.is(p.quiet(0), api.ErrState)
			p.depth(0, left)
			p.stands(0, true, 0)
			p.ok(p.unlock(0))
		}
		p.stands(0, true, 0) // the end of a section is no report
		p.ok(p.quiet(0))
		p.stands(1, false)
	}
}

func TestQuietWhileNoneIsInProgress(t *testing.T) { // P10.4
	for _, cpus := range []int{1, 8} {
		p := newPair(t, cpus)
		for range 3 {
			p.all(upTo(0, cpus-1)...)
			p.stands(0, false)
		}
		p.ok(p.call(0, 5)) // none of these reports counts for what begins later
		p.stands(0, true, upTo(0, cpus-1)...)
	}
}

func TestReportThenSection(t *testing.T) { // P10.4: one who has reported may read again, and is not waited for
	p := newPair(t, 2)
	p.ok(p.call(0, 5), p.quiet(0), p.lock(0))
	p.is(p.quiet(0), api.ErrState)
	p.stands(0, true, 1)
	p.ok(p.call(1, 6)) // what is read there waits longer
	p.ok(p.quiet(1))
	p.polls(0, 5)
	p.polls(1)
	p.stands(1, true, 0, 1)
	p.ok(p.quiet(1))
	p.polls(1)
	p.ok(p.unlock(0))
	p.polls(1)
	p.ok(p.quiet(0))
	p.polls(1, 6)
}

func TestOneProcessor(t *testing.T) { // P10.4: its report ends a grace period, and lets the next one begin
	p := newPair(t, 1)
	p.ok(p.call(0, 5), p.call(0, 6), p.call(0, 7))
	p.stands(0, true, 0)
	p.ok(p.quiet(0))
	p.stands(1, true, 0)
	p.ok(p.call(0, 8), p.quiet(0))
	p.stands(2, true, 0)
	p.polls(0, 5, 6, 7)
	p.ok(p.quiet(0))
	p.stands(3, false)
	p.polls(0, 8)
}

func TestNextBeginsForAnyProcessor(t *testing.T) { // P10.4
	for cpus := 2; cpus <= 8; cpus++ {
		for first := range cpus {
			for second := range cpus {
				p := newPair(t, cpus)
				p.ok(p.call(first, 5), p.call(second, 6))
				p.all(upTo(0, cpus-1)...)
				p.stands(1, true, upTo(0, cpus-1)...)
				p.all(upTo(0, cpus-1)...)
				p.stands(2, false)
			}
		}
	}
}

func TestNextDoesNotBegin(t *testing.T) { // P10.4: what is left could be polled
	for cpus := 1; cpus <= 8; cpus++ {
		p := newPair(t, cpus)
		for cpu := range cpus {
			p.ok(p.call(cpu, cpu))
		}
		p.all(upTo(0, cpus-1)...)
		p.all(upTo(0, cpus-1)...)
		for cpu := range cpus {
			p.waits(cpu, 1)
		}
		ended := p.m.ended()
		p.stands(ended, false)
		p.all(upTo(0, cpus-1)...)
		p.stands(ended, false)
		p.ok(p.call(0, 50)) // behind one that could be polled
		p.all(upTo(0, cpus-1)...)
		p.stands(ended+1, false)
		p.polls(0, 0, 50)
	}
}

func TestNextBeginsBehindOthers(t *testing.T) { // P10.4: the first record of each queue could be polled, a later one not
	p := newPair(t, 2)
	p.ok(p.call(0, 5), p.call(0, 6))
	p.all(0, 1)
	p.stands(1, true, 0, 1)
	p.ok(p.quiet(0), p.call(0, 7), p.quiet(1))
	p.stands(2, true, 0, 1)
	p.waits(0, 3)
	p.polls(0, 5, 6)
	p.all(0, 1)
	p.polls(0, 7)
}

func TestPoll(t *testing.T) { // P10.5
	p := newPair(t, 2)
	p.polls(0)
	p.ok(p.call(0, 5), p.call(0, 6))
	p.polls(0) // none has ended
	p.waits(0, 2)
	p.all(0, 1)
	p.polls(1) // another one's
	p.polls(0, 5)
	p.polls(0)
	p.waits(0, 1)
	p.all(0, 1)
	p.ok(p.call(1, 7))
	p.waits(1, 1)
	p.polls(1)
	p.waits(0, 1) // also as one that could be polled
	p.polls(0, 6)
	p.polls(0)
	p.waits(0, 0)
	p.waits(1, 1)
}

func TestPollBeginsAndEndsNothing(t *testing.T) { // P10.5
	p := newPair(t, 2)
	p.ok(p.call(0, 5), p.quiet(0), p.call(0, 6))
	p.polls(0)
	p.stands(0, true, 1)
	p.ok(p.quiet(1))
	p.polls(0, 5)
	p.stands(1, true, 0, 1)
	p.ok(p.lock(0))
	p.polls(0) // which may be asked for in a section
	p.ok(p.quiet(1), p.unlock(0), p.quiet(0), p.lock(0))
	p.polls(0, 6)
	p.stands(2, false)
	p.depth(0, 1)
}

func TestPolledRecordsAreGone(t *testing.T) { // P10.4, P10.5: nothing begins for them
	p := newPair(t, 1)
	p.ok(p.call(0, 5), p.quiet(0))
	p.polls(0, 5)
	p.ok(p.call(0, 6), p.quiet(0))
	p.stands(2, false)
	p.polls(0, 6)
}

func TestAllStates(t *testing.T) { // P10.2 to P10.7, P10.9
	for _, sort := range []struct{ cpus, depth, records, states int }{{1, 8, 4, 216}, {2, 2, 2, 1782}, {2, 0, 3, 913}, {3, 1, 1, 2080}, {4, 0, 1, 2626}} {
		if many := len(states(t, sort.cpus, sort.depth, sort.records)); many != sort.states {
			t.Errorf("%v: %d states", sort, many)
		}
	}
}

func TestTwoRounds(t *testing.T) { // P10.8 (W4): in all states and all orders
	for _, sort := range []struct{ cpus, depth, records int }{{1, 2, 3}, {2, 1, 2}, {3, 0, 1}} {
		rounds := orders(sort.cpus)
		for _, steps := range states(t, sort.cpus, sort.depth, sort.records) {
			for _, first := range rounds {
				for _, second := range rounds {
					p := after(t, sort.cpus, steps)
					p.closeAll()
					p.mustPollAll(first, second)
				}
			}
		}
	}
}

func TestOneRoundIsNotEnough(t *testing.T) { // P10.7: a record that is called while one is in progress outlasts the reports for that one
	p := newPair(t, 3)
	p.ok(p.call(0, 5), p.call(1, 6))
	p.all(0, 1, 2)
	p.polls(1)
	p.all(2, 1)
	p.polls(1)
	p.all(0)
	p.polls(1, 6)
}

func TestSectionsOfAnyProcessorHoldRecords(t *testing.T) { // P10.7 (W2)
	for cpus := 1; cpus <= 8; cpus++ {
		for reads := range cpus {
			for calls := range cpus {
				p := newPair(t, cpus)
				p.ok(p.lock(reads), p.lock(reads), p.call(calls, 5), p.call(calls, 6))
				others := slices.DeleteFunc(upTo(0, cpus-1), func(cpu int) bool { return cpu == reads })
				for range 3 {
					p.all(others...)
					p.is(p.quiet(reads), api.ErrState)
					p.polls(calls)
				}
				p.ok(p.unlock(reads), p.lock(reads), p.unlock(reads))
				p.is(p.quiet(reads), api.ErrState)
				p.polls(calls)
				p.ok(p.unlock(reads))
				p.polls(calls)
				p.all(reads)
				p.polls(calls, 5)
				p.all(others...)
				p.polls(calls)
				p.all(reads)
				p.polls(calls, 6)
			}
		}
	}
}

func TestManyCalls(t *testing.T) { // P10.2 to P10.9, on all numbers of processors
	for cpus := 1; cpus <= 8; cpus++ {
		for _, often := range []int{1, 3, 9} { // how much more often records are called than polled
			p := newPair(t, cpus)
			n := noise(10*cpus + often)
			for i := range 3000 {
				p.stir(&n, often)
				if i%7 == 0 {
					p.mustStand()
				}
				if i%500 == 499 {
					p.closeAll()
					p.mustPollAll(n.shuffled(cpus), n.shuffled(cpus))
				}
			}
		}
	}
}

// stir makes one call without a pattern, now and then one that is refused.
func (p *pair) stir(n *noise, often int) {
	p.t.Helper()
	cpu := n.next(len(p.m.depths))
	if n.next(30) == 0 {
		cpu = noCpus(len(p.m.depths))[n.next(13)]
	}
	switch kind := n.next(12 + often); {
	case kind < 2:
		p.lock(cpu)
	case kind < 5:
		p.unlock(cpu)
	case kind < 10:
		p.quiet(cpu)
	case kind < 11:
		p.poll(cpu)
	case kind < 12:
		p.call(cpu, badIds()[n.next(10)])
	default:
		p.call(cpu, n.next(50))
	}
}

func TestSameAnswersEachTime(t *testing.T) { // R2
	tell := func() []string {
		var all []string
		g := made(t, 3)
		n := noise(77)
		for range 2000 {
			cpu := n.next(4)
			e := []func() api.Errno{
				func() api.Errno { return g.Lock(cpu) }, func() api.Errno { return g.Unlock(cpu) }, func() api.Errno { return g.Quiet(cpu) },
				func() api.Errno { return g.Quiet(cpu) }, func() api.Errno { return g.Call(cpu, n.next(9)) },
			}[n.next(5)]()
			ids, _ := g.Poll(n.next(20))
			ended, going := g.Done()
			all = append(all, strconv.Itoa(int(e)), strconv.Itoa(len(ids)), strconv.Itoa(ended), strconv.FormatBool(going))
		}
		return all
	}
	if first, second := tell(), tell(); !slices.Equal(first, second) {
		t.Error("the same calls answer otherwise")
	}
}

func TestMachinesShareNothing(t *testing.T) { // R2: each is held against a model of its own
	a, b := newPair(t, 3), newPair(t, 3)
	n := noise(5)
	for range 3000 {
		p := a
		if n.next(3) == 0 {
			p = b
		}
		p.stir(&n, 4)
		a.mustStand()
		b.mustStand()
	}
	c := newPair(t, 3)
	c.stands(0, false)
	c.ok(c.lock(0), c.call(0, 5))
	d := newPair(t, 3)
	d.stands(0, false)
	d.depth(0, 0)
	d.waits(0, 0)
}

func TestResultsAreNewMemory(t *testing.T) { // R, Memory
	g := made(t, 2)
	for id := range 6 {
		g.Call(0, id)
		g.Call(1, 10+id)
	}
	round := func() {
		g.Quiet(0)
		g.Quiet(1)
	}
	round()
	first, _ := g.Poll(0)
	if !slices.Equal(first, []int{0}) {
		t.Fatal(first)
	}
	kept := slices.Clone(first)
	longer := append(first, 71, 72, 73, 74, 75, 76, 77, 78)
	spoil(longer)
	spoil(first)
	round()
	second, _ := g.Poll(0)
	if !slices.Equal(second, []int{1, 2, 3, 4, 5}) {
		t.Fatal("what was written into an earlier result is told:", second)
	}
	if !slices.Equal(kept, []int{0}) || slices.Contains(first, 0) {
		t.Fatal("an earlier result has changed:", first)
	}
	others, _ := g.Poll(1)
	spoil(second)
	if !slices.Equal(others, []int{10, 11, 12, 13, 14, 15}) {
		t.Fatal("two results share memory:", others)
	}
	none, e := g.Poll(1)
	if len(none) != 0 || e != api.OK {
		t.Fatal(none, e)
	}
	spoil(none)
	g.Call(1, 20)
	round()
	if last, _ := g.Poll(1); !slices.Equal(last, []int{20}) {
		t.Fatal(last)
	}
	if !slices.Equal(others, []int{10, 11, 12, 13, 14, 15}) {
		t.Fatal("a later call has changed a result:", others)
	}
}

func TestExamples(t *testing.T) { // the chapter's
	p := newPair(t, 2)
	p.ok(p.lock(0), p.call(1, 7), p.quiet(1))
	p.is(p.quiet(0), 292)
	p.polls(1)
	p.ok(p.unlock(0))
	p.polls(1)
	p.ok(p.quiet(0))
	p.stands(1, false)
	p.polls(1, 7)
	p.ok(p.call(0, 8), p.call(0, 9), p.quiet(0), p.quiet(1))
	p.stands(2, true, 0, 1)
	p.polls(0, 8)
}

func TestLongRun(t *testing.T) { // numbers of grace periods only grow
	p := newPair(t, 1)
	for i := range 5000 {
		p.call(0, i)
		p.quiet(0)
		if got, e := p.poll(0); !slices.Equal(got, []int{i}) || e != api.OK {
			t.Fatal(i, got, e)
		}
	}
	p.stands(5000, false)
}
