package fast_test

import (
	"math"
	"math/bits"
	"reflect"
	"slices"
	"strconv"
	"sync"
	"testing"

	"wainscot/api"
	"wainscot/chart"
	"wainscot/count"
	"wainscot/fast"
	"wainscot/link"
	"wainscot/mem"
)

// The tests hold the package against the table of the chapter said a second time, in another way: the words of a core have names, in the order of chapter 21, and an index is where a name stands; a task is a row of numbers, and each position tells which of them become something else, so that all others are as they were; the words of all heads and all links are listed, and what a word means is looked up there. The memory is held against plain words after each step. P22.2 and P22.3 are held against what chart.See tells of the cores, and against a book of who has which object, without the table.

// multiplier and keyStep are what is added to a key for each object, and for each slab.
const (
	multiplier = 2654435769
	keyStep    = 11400714819323198485
)

// name is that of a word: what it is, of which processor or slab, and of which object.
type name struct {
	what   string
	i, obj int
}

// head is a slab and an object of it.
type head struct{ slab, obj int }

// headWords are the words of all heads that there may be.
var headWords = allHeads()

func allHeads() map[head]uint64 {
	l := map[head]uint64{{-1, -1}: 0}
	for slab := range 32 {
		for obj := range 17 {
			l[head{slab, obj - 1}] = uint64(64*(slab+1) + obj)
		}
	}
	return l
}

// plan is where the words of a chart's core are, and what some of them may be.
type plan struct {
	c     api.Chart
	names []name
	at    map[name]int
	heads map[uint64]head   // of what the chart has
	links map[head][]uint64 // of an object: to none, to object 0, .. to object 15
}

// keyOf is the key of a slab, which is stepped to slab by slab.
func keyOf(key uint64, slab int) uint64 {
	for range slab {
		key += keyStep
	}
	return key
}

// linkOf is the link of an object to another one.
func linkOf(key uint64, at, next int) uint64 {
	return (bits.RotateLeft64(key, 5*at) + uint64(at)*multiplier) ^ uint64(next+1)
}

// planned is the plan of a chart that is valid.
func planned(c api.Chart) *plan {
	p := &plan{c, nil, map[name]int{}, map[uint64]head{0: {-1, -1}}, map[head][]uint64{}}
	for cpu := range c.Cpus {
		p.names = append(p.names, name{"head", cpu, 0}, name{"turn of head", cpu, 0}, name{"part", cpu, 0}, name{"turn of part", cpu, 0})
	}
	p.names = append(p.names, name{"lock", 0, 0}, name{"shelf", 0, 0}, name{"held", 0, 0}, name{"unused", 0, 0})
	for slab := range c.Slabs {
		p.names = append(p.names, name{"first", slab, 0}, name{"counts", slab, 0}, name{"next", slab, 0}, name{"unused of slab", slab, 0})
		p.heads[headWords[head{slab, -1}]] = head{slab, -1}
	}
	for slab := range c.Slabs {
		for obj := range c.Objects {
			p.names = append(p.names, name{"link", slab, obj})
			h := head{slab, obj}
			p.heads[headWords[h]] = h
			for next := -1; next < 16; next++ {
				p.links[h] = append(p.links[h], linkOf(keyOf(c.Key, slab), obj, next))
			}
		}
	}
	for at, n := range p.names {
		p.at[n] = at
	}
	return p
}

// plans are those that were asked for, which are slow to make.
var plans sync.Map

// planOf is the plan of a chart that is valid.
func planOf(c api.Chart) *plan {
	if p, is := plans.Load(c); is {
		return p.(*plan)
	}
	p := planned(c)
	plans.Store(c, p)
	return p
}

// The numbers of a task.
const (
	jobAt = iota
	cpuAt
	pcAt
	endAt
	wantAt
	slabAt
	objAt
	hAt
	tAt
	fAt
	kAt
	nAt
	lastAt
	manyAt
	toAt
	backAt
	forAt
	fields
)

type numbers [fields]uint64

// numbersOf is a task as a row of numbers.
func numbersOf(t api.Task) numbers {
	return numbers{
		jobAt: uint64(t.Job), cpuAt: uint64(t.Cpu), pcAt: uint64(t.Pc), endAt: uint64(t.End), wantAt: uint64(t.Want),
		slabAt: uint64(t.Slab), objAt: uint64(t.Obj), hAt: t.H, tAt: t.T, fAt: t.F, kAt: t.K, nAt: t.N,
		lastAt: uint64(t.Last), manyAt: uint64(t.Many), toAt: uint64(t.To), backAt: uint64(t.Back), forAt: uint64(t.For),
	}
}

func TestNumbersOfATask(t *testing.T) { // of these tests: no field is forgotten
	if n := reflect.TypeFor[api.Task]().NumField(); n != fields {
		t.Fatalf("a task has %d fields, not %d", n, fields)
	}
	for i := range fields {
		var task api.Task
		switch f := reflect.ValueOf(&task).Elem().Field(i); f.Kind() {
		case reflect.Int:
			f.SetInt(7)
		default:
			f.SetUint(7)
		}
		for field, n := range numbersOf(task) {
			if (n == 7) != (field == i) {
				t.Errorf("field %d: number %d is %d", i, field, n)
			}
		}
	}
}

// becomes is a number, or a word, that becomes something else: which one, and what.
type becomes struct {
	at int
	n  uint64
}

// outcome is what a step does.
type outcome struct {
	breaks bool
	task   []becomes
	words  []becomes
}

// index is where a word is, if there are so many.
func (p *plan) index(words int, what string, i, obj int) (int, bool) {
	at, is := p.at[name{what, i, obj}]
	return at, is && at < words
}

// onwards is where a JobAlloc goes on from a head.
func onwards(h head) uint64 {
	switch {
	case h == head{-1, -1}:
		return 30
	case h.obj == -1:
		return 20
	}
	return 2
}

// told is what the table tells of a running task at one of its positions.
func (p *plan) told(w []uint64, t api.Task) outcome {
	switch t.Pc {
	case 0, 10:
		at, is := p.index(len(w), "turn of head", t.Cpu, 0)
		if !is {
			return outcome{breaks: true}
		}
		return outcome{task: []becomes{{tAt, w[at]}, {pcAt, uint64(t.Pc + 1)}}}
	case 1, 11:
		at, is := p.index(len(w), "head", t.Cpu, 0)
		if !is {
			return outcome{breaks: true}
		}
		h, is := p.heads[w[at]]
		switch {
		case !is:
			return outcome{breaks: true}
		case t.Pc == 1:
			return outcome{task: []becomes{{hAt, w[at]}, {slabAt, uint64(h.slab)}, {objAt, uint64(h.obj)}, {pcAt, onwards(h)}}}
		case h.slab == t.Slab:
			return outcome{task: []becomes{{hAt, w[at]}, {lastAt, uint64(h.obj)}, {pcAt, 12}}}
		}
		return outcome{task: []becomes{{hAt, w[at]}, {pcAt, 50}}}
	case 2:
		at, is := p.index(len(w), "link", t.Slab, t.Obj)
		if !is {
			return outcome{breaks: true}
		}
		next := slices.Index(p.links[head{t.Slab, t.Obj}][:p.c.Objects+1], w[at])
		if next < 0 {
			return outcome{task: []becomes{{pcAt, 0}}}
		}
		return outcome{task: []becomes{{lastAt, uint64(next - 1)}, {pcAt, 3}}}
	case 12:
		at, is := p.index(len(w), "link", t.Slab, t.Obj)
		if !is || t.Last < -1 || t.Last > 15 {
			return outcome{breaks: true}
		}
		return outcome{task: []becomes{{pcAt, 13}}, words: []becomes{{at, p.links[head{t.Slab, t.Obj}][t.Last+1]}}}
	}
	first, again := t.Last, uint64(0)
	if t.Pc == 13 {
		first, again = t.Obj, 10
	}
	at, _ := p.index(len(w), "head", t.Cpu, 0)
	turn, is := p.index(len(w), "turn of head", t.Cpu, 0)
	word, isHead := headWords[head{t.Slab, first}]
	switch {
	case !is || !isHead:
		return outcome{breaks: true}
	case w[at] == t.H && w[turn] == t.T:
		return outcome{task: []becomes{{endAt, 1}}, words: []becomes{{at, word}, {turn, t.T + 1}}}
	}
	return outcome{task: []becomes{{pcAt, again}}}
}

// bench is a memory whose words are known.
type bench struct {
	t *testing.T
	p *plan
	m *mem.Mem
	w []uint64
}

// newBench has a memory of those words.
func newBench(t *testing.T, c api.Chart, w []uint64) *bench {
	t.Helper()
	return &bench{t, planOf(c), memory(t, w), slices.Clone(w)}
}

// memory has those words.
func memory(t *testing.T, w []uint64) *mem.Mem {
	t.Helper()
	m, e := mem.New(len(w))
	if e != api.OK {
		t.Fatalf("a memory of %d words: %d", len(w), e)
	}
	for at, word := range w {
		if word != 0 {
			m.Store(at, word)
		}
	}
	return m
}

// set lets a word be another one.
func (b *bench) set(at int, w uint64) {
	b.m.Store(at, w)
	b.w[at] = w
}

// name is a word by its name.
func (b *bench) name(what string, i, obj int) int {
	at, is := b.p.at[name{what, i, obj}]
	if !is {
		b.t.Fatalf("there is no %s of %d, %d", what, i, obj)
	}
	return at
}

// hold holds a step against what the table tells: the task, the words, and that there was one access; where a task breaks there may have been none. The memory is as before then.
func (b *bench) hold(task api.Task) api.Task {
	b.t.Helper()
	o := b.p.told(b.w, task)
	if o.breaks {
		o.task = []becomes{{endAt, 3}}
	}
	wanted := numbersOf(task)
	for _, n := range o.task {
		wanted[n.at] = n.n
	}
	accesses := b.m.Count()
	got, e := fast.Step(b.m, b.p.c, task)
	accesses = b.m.Count() - accesses
	if e != api.OK || numbersOf(got) != wanted {
		b.t.Fatalf("%+v, words %d, %+v: %+v, error %d, not %+v", b.p.c, b.w, task, got, e, o.task)
	}
	if accesses != 1 && !(o.breaks && accesses == 0) {
		b.t.Fatalf("%+v, %+v: %d accesses", b.p.c, task, accesses)
	}
	var was []uint64
	for _, n := range o.words {
		was = append(was, b.w[n.at])
		b.w[n.at] = n.n
	}
	if words := b.m.Words(); !slices.Equal(words, b.w) {
		b.t.Fatalf("%+v, %+v: words %d, not %d", b.p.c, task, words, b.w)
	}
	for i, n := range o.words {
		b.set(n.at, was[i])
	}
	return got
}

// noise is numbers that follow no rule, the same ones each time.
type noise uint64

func (n *noise) word() uint64 {
	*n += 0x9e3779b97f4a7c15
	w := uint64(*n)
	w = (w ^ w>>30) * 0xbf58476d1ce4e5b9
	w = (w ^ w>>27) * 0x94d049bb133111eb
	return w ^ w>>31
}

// next is a number below a bound.
func (n *noise) next(below int) int {
	return int(n.word() % uint64(below))
}

// shuffled are the numbers below a bound in some order.
func (n *noise) shuffled(many int) []int {
	var l []int
	for i := range many {
		l = slices.Insert(l, n.next(i+1), i)
	}
	return l
}

// words are so many that follow no rule.
func (n *noise) words(many int) []uint64 {
	l := make([]uint64, many)
	for at := range l {
		l[at] = n.word()
	}
	return l
}

// of is a chart with a key.
func of(cpus, slabs, objects int) api.Chart {
	return api.Chart{Cpus: cpus, Slabs: slabs, Objects: objects, Min: 1, Cap: 2, Key: 0x0123456789abcdef}
}

// someCharts are of all sizes.
func someCharts() []api.Chart {
	full := of(8, 32, 16)
	full.Min, full.Cap = 32, 32
	return []api.Chart{of(1, 1, 1), of(2, 3, 4), of(3, 5, 15), {Cpus: 2, Slabs: 31, Objects: 2}, full}
}

// hand writes words of a core by their names, and leaves noise wherever it writes nothing.
type hand struct {
	p *plan
	w []uint64
}

// newHand has a core without slabs; its links are noise.
func newHand(c api.Chart, n *noise) *hand {
	p := planOf(c)
	h := &hand{p, n.words(len(p.names))}
	for at, n := range p.names {
		if n.what != "link" && n.what != "turn of head" && n.what != "turn of part" {
			h.w[at] = 0
		}
	}
	return h
}

func (h *hand) set(what string, i int, w uint64) {
	h.w[h.p.at[name{what, i, 0}]] = w
}

// list writes the links of a list: its first object.
func (h *hand) list(slab int, l ...int) int {
	for i, obj := range l {
		next := -1
		if i+1 < len(l) {
			next = l[i+1]
		}
		h.w[h.p.at[name{"link", slab, obj}]] = h.p.links[head{slab, obj}][next+1]
	}
	if len(l) == 0 {
		return -1
	}
	return l[0]
}

// slot lets a processor have a slab, of it a list, and a version.
func (h *hand) slot(cpu, slab int, turn uint64, l ...int) {
	h.set("head", cpu, headWords[head{slab, h.list(slab, l...)}])
	h.set("turn of head", cpu, turn)
	h.live(slab, true)
}

// live lets the counts of a slab be those of a live one.
func (h *hand) live(slab int, frozen bool) {
	w := uint64(131072 + 257*h.p.c.Objects)
	if frozen {
		w += 65536
	}
	h.set("counts", slab, w)
}

// see is what the words of a core mean.
func see(t *testing.T, m *mem.Mem, c api.Chart) api.Core {
	t.Helper()
	core, e := chart.See(m.Words()[:chart.Words(c)], c)
	if e != api.OK {
		t.Fatalf("%+v: See of %d: %d", c, m.Words(), e)
	}
	return core
}

// mustSlot holds what a processor has of a core.
func mustSlot(t *testing.T, got api.Slot, slab int, turn uint64, l ...int) {
	t.Helper()
	if got.Slab != slab || got.Turn != turn || !slices.Equal(got.List, l) {
		t.Fatalf("slab %d, version %d, list %d, not %d, %d, %d", got.Slab, got.Turn, got.List, slab, turn, l)
	}
}

// run does so many steps of a task.
func run(t *testing.T, m *mem.Mem, c api.Chart, task api.Task, steps int) api.Task {
	t.Helper()
	for i := range steps {
		after, e := fast.Step(m, c, task)
		if e != api.OK {
			t.Fatalf("step %d of %d, %+v: error %d", i+1, steps, task, e)
		}
		task = after
	}
	return task
}

func TestExamples(t *testing.T) { // of the chapter
	c := api.Chart{Cpus: 1, Slabs: 1, Objects: 3}
	n := noise(1)
	h := newHand(c, &n)
	h.slot(0, 0, 5, 0, 1, 2)
	m := memory(t, h.w)
	got := run(t, m, c, api.Task{Job: api.JobAlloc}, 4)
	if got.End != api.EndDone || got.Slab != 0 || got.Obj != 0 {
		t.Fatalf("a JobAlloc: %+v", got)
	}
	mustSlot(t, see(t, m, c).Slots[0], 0, 6, 1, 2)
	if got := run(t, m, c, api.Task{Job: api.JobFree, Pc: 10}, 4); got.End != api.EndDone {
		t.Fatalf("a JobFree: %+v", got)
	}
	mustSlot(t, see(t, m, c).Slots[0], 0, 7, 0, 1, 2)
}

// worked is a step with numbers that were worked out without the model.
type worked struct {
	why          string
	before       api.Task
	at           int // a word that is there
	word, behind uint64
	after        api.Task
	to, toBehind uint64 // what these words are then
}

// plainTask has another number in each field, so that none is mistaken for another one.
func plainTask(at int) api.Task {
	return api.Task{Job: 9, Cpu: 1, Pc: at, Slab: 2, Obj: 3, H: 101, T: 102, F: 103, K: 104, N: 105, Last: 1, Many: 107, To: 108, Back: 109, For: 110}
}

// after is a task with some fields changed.
func after(task api.Task, change func(t *api.Task)) api.Task {
	change(&task)
	return task
}

func TestWorkedOut(t *testing.T) { // P22.1: of a core with 2 processors, 3 slabs of 4 objects and key 0, in which the head of 1 is at 4, the link of slab 2 and object 3 at 35
	c := api.Chart{Cpus: 2, Slabs: 3, Objects: 4}
	key := uint64(4354685564936845354) // of slab 2: twice 11400714819323198485, less 2^64
	derived := bits.RotateLeft64(key, 15) + 7963307307
	at := plainTask
	for _, w := range []worked{
		{"version", at(0), 5, 77, 0, after(at(1), func(t *api.Task) { t.T = 77 }), 77, 0},
		{"version", at(10), 5, 77, 0, after(at(11), func(t *api.Task) { t.T = 77 }), 77, 0},
		{"no slab", at(1), 4, 0, 5, after(at(30), func(t *api.Task) { t.H, t.Slab, t.Obj = 0, -1, -1 }), 0, 5},
		{"no object", at(1), 4, 128, 5, after(at(20), func(t *api.Task) { t.H, t.Slab, t.Obj = 128, 1, -1 }), 128, 5},
		{"an object", at(1), 4, 65, 5, after(at(2), func(t *api.Task) { t.H, t.Slab, t.Obj = 65, 0, 0 }), 65, 5},
		{"the last object", at(1), 4, 196, 5, after(at(2), func(t *api.Task) { t.H, t.Slab, t.Obj = 196, 2, 3 }), 196, 5},
		{"one object too far", at(1), 4, 197, 5, after(at(1), func(t *api.Task) { t.End = 3 }), 197, 5},
		{"one slab too far", at(1), 4, 256, 5, after(at(1), func(t *api.Task) { t.End = 3 }), 256, 5},
		{"not a head", at(1), 4, 1, 5, after(at(1), func(t *api.Task) { t.End = 3 }), 1, 5},
		{"a link", at(2), 35, derived ^ 3, 0, after(at(3), func(t *api.Task) { t.Last = 2 }), derived ^ 3, 0},
		{"a link to none", at(2), 35, derived, 0, after(at(3), func(t *api.Task) { t.Last = -1 }), derived, 0},
		{"a link too far", at(2), 35, derived ^ 5, 0, at(0), derived ^ 5, 0},
		{"not a link", at(2), 35, derived ^ 17, 0, at(0), derived ^ 17, 0},
		{"a swap", at(3), 4, 101, 102, after(at(3), func(t *api.Task) { t.End = 1 }), 194, 103},
		{"a swap that fails", at(3), 4, 101, 103, at(0), 101, 103},
		{"of the slab", at(11), 4, 194, 5, after(at(12), func(t *api.Task) { t.H, t.Last = 194, 1 }), 194, 5},
		{"of the slab, no object", at(11), 4, 192, 5, after(at(12), func(t *api.Task) { t.H, t.Last = 192, -1 }), 192, 5},
		{"of another slab", at(11), 4, 130, 5, after(at(50), func(t *api.Task) { t.H = 130 }), 130, 5},
		{"of no slab", at(11), 4, 0, 5, after(at(50), func(t *api.Task) { t.H = 0 }), 0, 5},
		{"not a head", at(11), 4, 64 * 4, 5, after(at(11), func(t *api.Task) { t.End = 3 }), 64 * 4, 5},
		{"a store", at(12), 35, 5, 0, at(13), derived ^ 2, 0},
		{"a swap", at(13), 4, 101, 102, after(at(13), func(t *api.Task) { t.End = 1 }), 196, 103},
		{"a swap that fails", at(13), 4, 102, 102, at(10), 102, 102},
	} {
		m, _ := mem.New(36)
		m.Store(w.at, w.word)
		m.Store(w.at+1, w.behind)
		got, e := fast.Step(m, c, w.before)
		if got != w.after || e != api.OK {
			t.Errorf("%d, %s: %+v, %d, not %+v", w.before.Pc, w.why, got, e, w.after)
		}
		word, _ := m.Load(w.at)
		behind := uint64(0)
		if w.at < 35 {
			behind, _ = m.Load(w.at + 1)
		}
		if word != w.to || behind != w.toBehind {
			t.Errorf("%d, %s: words %d and %d, not %d and %d", w.before.Pc, w.why, word, behind, w.to, w.toBehind)
		}
	}
}

// positions are those of the table.
func positions() []int { return []int{0, 1, 2, 3, 10, 11, 12, 13} }

// cpuEdges, slabEdges and objEdges are numbers about where there are no more of them.
func cpuEdges(c api.Chart) []int {
	return edges(c.Cpus, 8)
}

func slabEdges(c api.Chart) []int {
	return edges(c.Slabs, 32)
}

func objEdges(c api.Chart) []int {
	return edges(c.Objects, 16)
}

// edges are the ends of int, and numbers about 0, about how many there are, and about how many there may be.
func edges(many, most int) []int {
	l := []int{math.MinInt, -2, -1, 0, many - 1, many, most - 1, most, math.MaxInt}
	slices.Sort(l)
	return slices.Compact(l)
}

// wrongCharts are not valid, by one field or by all of them.
func wrongCharts() []api.Chart {
	l := []api.Chart{{}, {Cpus: 9, Slabs: 33, Objects: 17, Min: 33, Cap: 33}, {Cpus: -1, Slabs: -1, Objects: -1, Min: -1, Cap: -1}}
	for _, i := range []int{math.MinInt, -1, 0, 33, math.MaxInt} {
		for at := range 5 {
			c := of(2, 3, 4)
			field := []*int{&c.Cpus, &c.Slabs, &c.Objects, &c.Min, &c.Cap}[at]
			if *field = i; i == 0 && at > 2 {
				continue
			}
			l = append(l, c)
		}
	}
	return append(l, of(9, 3, 4), of(2, 3, 17))
}

// stateEdges are of End and Want.
func stateEdges() []int { return []int{math.MinInt, -1, 0, 1, 2, 3, math.MaxInt} }

// pcEdges are of Pc, those of the table and others.
func pcEdges() []int {
	l := []int{math.MinInt, math.MinInt + 10, -10, -1, 23, 24, 30, 31, 50, 51, 60, 70, 76, 80, 95, 103, 256, 266, 1 << 32, 1<<32 + 10, math.MaxInt - 10, math.MaxInt}
	for i := range 22 {
		l = append(l, i)
	}
	return l
}

// mustRefuse holds that a step is refused, and that nothing was accessed.
func mustRefuse(t *testing.T, want api.Errno, m *mem.Mem, c api.Chart, task api.Task) {
	t.Helper()
	words, accesses := m.Words(), m.Count()
	got, e := fast.Step(m, c, task)
	if e != want || got != (api.Task{}) {
		t.Fatalf("%+v, %+v: %+v, error %d, not %d", c, task, got, e, want)
	}
	if !slices.Equal(words, m.Words()) || accesses != m.Count() {
		t.Fatalf("%+v, %+v: error %d, and an access", c, task, e)
	}
}

func TestNoMemory(t *testing.T) { // P22.1: ErrNil, ahead of ErrArg and ErrState
	charts := append(wrongCharts(), someCharts()...)
	for _, m := range []*mem.Mem{nil, {}} {
		for _, c := range charts {
			for _, at := range pcEdges() {
				for _, state := range stateEdges() {
					task := plainTask(at)
					mustRefuse(t, api.ErrNil, m, c, task)
					task.End = state
					mustRefuse(t, api.ErrNil, m, c, task)
					task.Want = state
					mustRefuse(t, api.ErrNil, m, c, task)
				}
			}
		}
		mustRefuse(t, api.ErrNil, m, api.Chart{}, api.Task{})
	}
}

func TestNoChart(t *testing.T) { // P22.1: ErrArg, ahead of ErrState
	n := noise(2)
	for _, m := range []*mem.Mem{memory(t, n.words(1)), memory(t, n.words(100))} {
		for _, c := range wrongCharts() {
			for _, at := range pcEdges() {
				for _, state := range stateEdges() {
					task := plainTask(at)
					task.Want = state
					mustRefuse(t, api.ErrArg, m, c, task)
					task.End = state
					mustRefuse(t, api.ErrArg, m, c, task)
					task.Want = 0
					mustRefuse(t, api.ErrArg, m, c, task)
				}
			}
		}
		mustRefuse(t, api.ErrArg, m, api.Chart{}, api.Task{})
	}
}

func TestNotNow(t *testing.T) { // P22.1: ErrState unless End and Want are 0, and Pc is in the table; also where the task would break
	n := noise(3)
	for _, c := range []api.Chart{of(1, 1, 1), of(2, 3, 4)} {
		for _, m := range []*mem.Mem{memory(t, n.words(1)), memory(t, n.words(36))} {
			for _, at := range pcEdges() {
				for _, one := range stateEdges() {
					for _, other := range stateEdges() {
						if one == 0 && other == 0 && slices.Contains(positions(), at) {
							continue
						}
						task := plainTask(at)
						task.End, task.Want = one, other
						mustRefuse(t, api.ErrState, m, c, task)
						task.Cpu, task.Slab, task.Obj, task.Last = -1, 99, -7, math.MaxInt
						mustRefuse(t, api.ErrState, m, c, task)
					}
				}
			}
		}
	}
}

func TestAllPositions(t *testing.T) { // P22.1: of the numbers about the table's, exactly those in it are
	m := memory(t, make([]uint64, 36))
	for at := -300; at <= 300; at++ {
		want := api.ErrState
		if slices.Contains(positions(), at) {
			want = api.OK
		}
		if got, e := fast.Step(m, of(2, 3, 4), api.Task{Pc: at}); e != want || e != api.OK && got != (api.Task{}) {
			t.Errorf("at %d: %+v, error %d, not %d", at, got, e, want)
		}
	}
}

// someBenches are memories of a core: one as it should be, ones whose heads are of all sorts, noise, zeros, and of too few and too many words.
func someBenches(t *testing.T, c api.Chart) []*bench {
	n := noise(c.Slabs)
	var l []*bench
	for i := range 4 {
		h := newHand(c, &n)
		for cpu := range c.Cpus {
			h.slot(cpu, (cpu+i)%c.Slabs, n.word(), n.shuffled(c.Objects)[:(i+c.Objects-1)%(c.Objects+1)]...)
		}
		if i == 3 {
			h.set("head", 0, uint64(64*(c.Slabs+1)+1))
			h.set("head", c.Cpus-1, 0)
		}
		l = append(l, newBench(t, c, h.w))
	}
	words := chart.Words(c)
	long := append(slices.Clone(l[0].w), n.words(9)...)
	return append(l, newBench(t, c, n.words(words)), newBench(t, c, make([]uint64, words)), newBench(t, c, l[0].w[:words-1]), newBench(t, c, l[0].w[:4*c.Cpus-3]), newBench(t, c, long))
}

// read lets a task have read what there is at the head of a processor, if there is one.
func (b *bench) read(task api.Task) api.Task {
	at, is := b.p.index(len(b.w), "head", task.Cpu, 0)
	turn, isTurn := b.p.index(len(b.w), "turn of head", task.Cpu, 0)
	if is && isTurn {
		task.H, task.T = b.w[at], b.w[turn]
	}
	return task
}

func TestEdgesTogether(t *testing.T) { // P22.1: each edge of Cpu, Slab, Obj and Last with all others, at each position, in all sorts of memories
	for _, c := range someCharts() {
		for i, b := range someBenches(t, c) {
			t.Run(strconv.Itoa(c.Slabs)+" slabs "+strconv.Itoa(i), func(t *testing.T) {
				t.Parallel()
				b := newBench(t, c, b.w)
				for _, cpu := range cpuEdges(c) {
					for _, slab := range slabEdges(c) {
						for _, obj := range objEdges(c) {
							b.holdAll(cpu, slab, obj, i)
						}
					}
				}
			})
		}
	}
}

// holdAll holds all positions with all edges of Last; every other time the task has not read what there is.
func (b *bench) holdAll(cpu, slab, obj, odd int) {
	for i, last := range objEdges(b.p.c) {
		for _, at := range positions() {
			task := plainTask(at)
			task.Cpu, task.Slab, task.Obj, task.Last = cpu, slab, obj, last
			if (i+odd+obj)%2 == 0 {
				task = b.read(task)
			}
			b.hold(task)
		}
	}
}

func TestOneEdge(t *testing.T) { // P22.1: one edge, with all others as they must be
	for _, c := range someCharts() {
		for _, b := range someBenches(t, c) {
			for _, at := range positions() {
				must := plainTask(at)
				must.Cpu, must.Slab, must.Obj, must.Last = c.Cpus-1, c.Slabs-1, c.Objects-1, c.Objects-1
				for _, i := range slices.Concat(cpuEdges(c), slabEdges(c), objEdges(c)) {
					b.hold(b.read(after(must, func(t *api.Task) { t.Cpu = i })))
					b.hold(b.read(after(must, func(t *api.Task) { t.Slab = i })))
					b.hold(b.read(after(must, func(t *api.Task) { t.Obj = i })))
					b.hold(b.read(after(must, func(t *api.Task) { t.Last = i })))
				}
			}
		}
	}
}

func TestNumbersThatWrapRound(t *testing.T) { // P22.1: numbers that would be others in fewer bits, or multiplied
	for _, c := range []api.Chart{of(1, 1, 1), of(2, 3, 4), of(8, 32, 16)} {
		for _, b := range someBenches(t, c)[:2] {
			for _, at := range positions() {
				for shift := 5; shift < 64; shift++ {
					for _, by := range []int{-2, -1, 0, 1} {
						i := 1<<shift + by
						b.hold(b.read(after(api.Task{Pc: at}, func(t *api.Task) { t.Cpu = i })))
						b.hold(b.read(after(api.Task{Pc: at}, func(t *api.Task) { t.Slab = i })))
						b.hold(b.read(after(api.Task{Pc: at}, func(t *api.Task) { t.Obj = i })))
						b.hold(b.read(after(api.Task{Pc: at}, func(t *api.Task) { t.Last = i })))
						b.hold(b.read(after(api.Task{Pc: at}, func(t *api.Task) { t.Cpu, t.Slab, t.Obj, t.Last = i, i, i, i })))
					}
				}
			}
		}
	}
}

func TestOtherFields(t *testing.T) { // P22.1: what the job is, and what was read elsewhere, changes nothing, and is as before
	b := someBenches(t, of(2, 3, 4))[0]
	numbers := []int{math.MinInt, -1, 0, 1, 2, 3, 4, 5, math.MaxInt}
	for _, at := range positions() {
		for _, i := range numbers {
			w := uint64(i)
			task := b.read(plainTask(at))
			for _, change := range []func(t *api.Task){
				func(t *api.Task) { t.Job = i },
				func(t *api.Task) { t.F = w },
				func(t *api.Task) { t.K = w },
				func(t *api.Task) { t.N = w },
				func(t *api.Task) { t.Many = i },
				func(t *api.Task) { t.To = i },
				func(t *api.Task) { t.Back = i },
				func(t *api.Task) { t.For = i },
				func(t *api.Task) { t.Job, t.F, t.K, t.N, t.Many, t.To, t.Back, t.For = i, w, w, w, i, i, i, i },
			} {
				b.hold(after(task, change))
			}
		}
	}
}

func TestChartsWithOtherSlabsToKeep(t *testing.T) { // P22.1: Min and Cap are not of these steps
	for _, kept := range [][2]int{{0, 0}, {0, 32}, {32, 0}, {32, 32}, {7, 9}} {
		c := of(2, 3, 4)
		c.Min, c.Cap = kept[0], kept[1]
		for _, b := range someBenches(t, c) {
			for _, at := range positions() {
				b.hold(plainTask(at))
				b.hold(b.read(plainTask(at)))
			}
		}
	}
}

// someWords are those of all heads and about them, with each bit, and some that follow no rule.
func someWords() []uint64 {
	l := []uint64{math.MaxUint64, 1<<63 - 1}
	for w := range uint64(2304) {
		l = append(l, w)
	}
	for bit := range 64 {
		for _, w := range []uint64{0, 1, 64, 65, 130, 2048, 2064} {
			l = append(l, w^1<<bit)
		}
	}
	n := noise(4)
	return append(l, n.words(100)...)
}

func TestTurns(t *testing.T) { // P22.1: at 0 and 10 any word is a version, and no other word is read
	for _, c := range someCharts() {
		b := someBenches(t, c)[4]
		for cpu := range c.Cpus {
			at := b.name("turn of head", cpu, 0)
			for _, w := range []uint64{0, 1, 2, 64, 1 << 53, 1 << 63, math.MaxUint64 - 1, math.MaxUint64} {
				b.set(at, w)
				for _, position := range []int{0, 10} {
					task := plainTask(position)
					task.Cpu = cpu
					if got := b.hold(task); got.T != w || got.Pc != position+1 {
						t.Fatalf("version %d: %+v", w, got)
					}
				}
			}
		}
	}
}

func TestHeads(t *testing.T) { // P22.1: at 1 and 11 all words that are heads, of what the chart has or not, and ones that are not; with the object's slab being each one
	for _, c := range someCharts() {
		b := someBenches(t, c)[4]
		cpu := c.Cpus - 1
		at := b.name("head", cpu, 0)
		broken := 0
		for i, w := range someWords() {
			b.set(at, w)
			task := plainTask(1)
			task.Cpu = cpu
			if b.hold(task).End == api.EndBroken {
				broken++
			}
			task.Pc = 11
			for _, slab := range []int{-1, 0, int(w>>6) - 1, int(w >> 6), i % 32, c.Slabs - 1, c.Slabs, math.MaxInt} {
				task.Slab = slab
				b.hold(task)
			}
		}
		if heads := 1 + c.Slabs*(c.Objects+1); broken >= len(someWords())-heads+5 || broken < len(someWords())-2*heads-20 {
			t.Errorf("%+v: of %d words %d break, and there are %d heads", c, len(someWords()), broken, heads)
		}
	}
}

func TestHeadsOfNoSlab(t *testing.T) { // P22.1: at 11 a head without a slab is of none that the task has
	b := newBench(t, of(2, 3, 4), make([]uint64, 36))
	for slab := range 3 {
		task := plainTask(11)
		task.Slab = slab
		if got := b.hold(task); got.Pc != 50 || got.H != 0 || got.Last != task.Last {
			t.Errorf("slab %d: %+v", slab, got)
		}
	}
}

// keys are of all sorts.
func keys() []uint64 {
	return []uint64{0, 1, 7, 1 << 59, 1 << 63, 0x0123456789abcdef, math.MaxUint64, math.MaxUint64 - multiplier + 1}
}

func TestLinks(t *testing.T) { // P22.1: at 2 all links of each object, to what the chart has or not, those of another object or another key, and words that are none
	for _, key := range keys() {
		for _, c := range []api.Chart{of(1, 1, 1), of(2, 3, 4), of(1, 32, 16), of(1, 2, 15)} {
			c.Key = key
			b := newBench(t, c, make([]uint64, chart.Words(c)))
			for slab := range c.Slabs {
				for obj := range c.Objects {
					if c.Slabs == 32 && (slab+obj)%8 != 7 {
						continue // it takes long to look at so many words
					}
					b.holdLinks(slab, obj)
				}
			}
		}
	}
}

// holdLinks holds links of an object; the task goes back to 0 as often as it should.
func (b *bench) holdLinks(slab, obj int) {
	at := b.name("link", slab, obj)
	key := keyOf(b.p.c.Key, slab)
	task := plainTask(2)
	task.Slab, task.Obj = slab, obj
	for next := -1; next <= 17; next++ {
		b.set(at, linkOf(key, obj, next))
		got := b.hold(task)
		if next < b.p.c.Objects && (got.Last != next || got.Pc != 3) || next >= b.p.c.Objects && (got.Last != task.Last || got.Pc != 0) {
			b.t.Fatalf("%+v: link of %d, %d to %d: %+v", b.p.c, slab, obj, next, got)
		}
		for _, other := range []uint64{linkOf(key, (obj+1)%16, next), linkOf(key+keyStep, obj, next), linkOf(b.p.c.Key, obj, next), linkOf(key, obj, next) ^ 1<<63, linkOf(key, obj, next) ^ 32, uint64(next + 1)} {
			b.set(at, other)
			b.hold(task)
		}
	}
	b.set(at, 0)
}

func TestStores(t *testing.T) { // P22.1: at 12 the link of each object to each one, of other objects than the chart has as well, as far as a link can tell
	for _, key := range keys() {
		for _, c := range []api.Chart{of(1, 1, 1), of(2, 3, 4), of(1, 5, 16)} {
			c.Key = key
			b := newBench(t, c, make([]uint64, chart.Words(c)))
			for slab := range c.Slabs {
				for obj := range c.Objects {
					for last := -3; last <= 18; last++ {
						task := plainTask(12)
						task.Slab, task.Obj, task.Last = slab, obj, last
						if got := b.hold(task); (got.End == api.EndBroken) != (last < -1 || last > 15) {
							t.Fatalf("link to %d: %+v", last, got)
						}
					}
				}
			}
		}
	}
}

func TestSwaps(t *testing.T) { // P22.1: at 3 and 13 head and version are compared together, each bit of them, and T + 1 is modulo 2^64
	c := of(2, 3, 4)
	n := noise(6)
	for _, position := range []int{3, 13} {
		b := newBench(t, c, n.words(36))
		at, turn := b.name("head", 1, 0), b.name("turn of head", 1, 0)
		for _, h := range []uint64{0, 1, 65, 194, n.word(), math.MaxUint64} {
			for _, v := range []uint64{0, 1, 5, n.word(), 1<<32 - 1, 1<<63 - 1, math.MaxUint64} {
				b.set(at, h)
				b.set(turn, v)
				task := plainTask(position)
				task.H, task.T = h, v
				if got := b.hold(task); got.End != api.EndDone {
					t.Fatalf("head %d, version %d: %+v", h, v, got)
				}
				for bit := range 64 {
					for _, other := range []api.Task{after(task, func(t *api.Task) { t.H ^= 1 << bit }), after(task, func(t *api.Task) { t.T ^= 1 << bit }), after(task, func(t *api.Task) { t.H ^= 1 << bit; t.T ^= 1 << bit })} {
						if got := b.hold(other); got.End != 0 || got.Pc != position-3 {
							t.Fatalf("head %d, version %d: %+v", h, v, got)
						}
					}
				}
				task.H, task.T = v, h
				b.hold(task)
			}
		}
	}
}

func TestSwapsLeaveTheNewWords(t *testing.T) { // P22.1: what the head and the version become, without the model
	for _, position := range []int{3, 13} {
		for _, v := range []uint64{0, 9, math.MaxUint64} {
			m := memory(t, make([]uint64, 36))
			m.Store(4, 77)
			m.Store(5, v)
			task := plainTask(position)
			task.H, task.T = 77, v
			if got, e := fast.Step(m, of(2, 3, 4), task); e != api.OK || got != after(task, func(t *api.Task) { t.End = 1 }) {
				t.Errorf("%d: %+v, %d", position, got, e)
			}
			want := uint64(194)
			if position == 13 {
				want = 196
			}
			words := m.Words()
			if words[4] != want || words[5] != v+1 {
				t.Errorf("%d: head %d, version %d, not %d, %d", position, words[4], words[5], want, v+1)
			}
		}
	}
}

func TestHeadsThatAreMade(t *testing.T) { // P22.1: at 3 and 13 a head need not be of what the chart has, but must be one
	for _, c := range someCharts() {
		b := newBench(t, c, make([]uint64, chart.Words(c)))
		for slab := -3; slab <= 34; slab++ {
			for obj := -3; obj <= 18; obj++ {
				_, is := headWords[head{slab, obj}]
				task := plainTask(3)
				task.Cpu, task.Slab, task.Last, task.H, task.T = c.Cpus-1, slab, obj, 0, 0
				if got := b.hold(task); (got.End == api.EndDone) != is {
					t.Fatalf("%d, %d: %+v", slab, obj, got)
				}
				task.Pc, task.Last, task.Obj = 13, 5, obj
				if got := b.hold(task); (got.End == api.EndDone) != is {
					t.Fatalf("%d, %d: %+v", slab, obj, got)
				}
				b.hold(after(task, func(t *api.Task) { t.T = 1 })) // a head that can't be made breaks the task also where the swap would fail
			}
		}
	}
}

func TestShortMemories(t *testing.T) { // P22.1: of each number of words up to some more than the chart has
	for _, c := range []api.Chart{of(1, 1, 1), of(2, 3, 4), of(8, 2, 3)} {
		n := noise(7)
		h := newHand(c, &n)
		for cpu := range c.Cpus {
			h.slot(cpu, cpu%c.Slabs, n.word(), n.shuffled(c.Objects)...)
		}
		all := append(h.w, n.words(5)...)
		for words := 1; words <= len(all); words++ {
			b := newBench(t, c, all[:words])
			for _, position := range positions() {
				for cpu := range c.Cpus {
					for slab := range c.Slabs {
						for obj := range c.Objects {
							task := plainTask(position)
							task.Cpu, task.Slab, task.Obj, task.H, task.T = cpu, slab, obj, all[4*cpu], all[4*cpu+1]
							b.hold(task)
						}
					}
				}
			}
		}
	}
}

func TestMemoriesEndWhereWordsAre(t *testing.T) { // P22.1: which word must exist, by numbers: with one word fewer the task breaks
	for _, one := range []struct{ position, words int }{{0, 6}, {1, 5}, {2, 36}, {3, 6}, {10, 6}, {11, 5}, {12, 36}, {13, 6}} {
		for words := 1; words <= 40; words++ {
			m := memory(t, make([]uint64, words))
			got, e := fast.Step(m, of(2, 3, 4), plainTask(one.position))
			if e != api.OK || (got.End == api.EndBroken) != (words < one.words) {
				t.Errorf("%d, %d words: %+v, %d", one.position, words, got, e)
			}
			if got.End == api.EndBroken && got != after(plainTask(one.position), func(t *api.Task) { t.End = 3 }) {
				t.Errorf("%d, %d words: %+v", one.position, words, got)
			}
		}
	}
}

func TestNoOtherWordIsRead(t *testing.T) { // P22.1: whatever all words but those of the row are
	for _, c := range []api.Chart{of(1, 1, 1), of(2, 3, 4), of(8, 32, 16)} {
		n := noise(8)
		h := newHand(c, &n)
		cpu, slab, obj := c.Cpus-1, c.Slabs-1, c.Objects-1
		h.slot(cpu, slab, n.word(), n.shuffled(c.Objects)...)
		for _, position := range positions() {
			b := newBench(t, c, h.w)
			task := plainTask(position)
			task.Cpu, task.Slab, task.Obj = cpu, slab, obj
			task = b.read(task)
			row := map[int][]int{
				0: {b.name("turn of head", cpu, 0)}, 1: {b.name("head", cpu, 0)}, 2: {b.name("link", slab, obj)}, 3: {b.name("head", cpu, 0), b.name("turn of head", cpu, 0)},
			}[position%10]
			if position == 12 {
				row = nil
			}
			first := b.hold(task)
			for at := range b.w {
				if slices.Contains(row, at) {
					continue
				}
				was := b.w[at]
				for _, w := range []uint64{0, n.word(), math.MaxUint64} {
					b.set(at, w)
					if got := b.hold(task); got != first {
						t.Fatalf("%+v: %+v with word %d changed, not %+v", task, got, at, first)
					}
				}
				b.set(at, was)
			}
			for at := range b.w {
				if !slices.Contains(row, at) {
					b.set(at, n.word())
				}
			}
			if got := b.hold(task); got != first {
				t.Fatalf("%+v: %+v with all other words changed, not %+v", task, got, first)
			}
		}
	}
}

func TestFirstWordIsNoVersion(t *testing.T) { // P22.1: of a processor that there is not, no version is read, not the word ahead of all heads either
	for _, cpu := range []int{math.MinInt, -1, 2, math.MaxInt} {
		for _, position := range []int{0, 10} {
			m := memory(t, []uint64{9, 9, 9, 9, 9, 9, 9, 9, 9, 9, 9, 9})
			task := api.Task{Cpu: cpu, Pc: position}
			if got, e := fast.Step(m, of(2, 3, 4), task); e != api.OK || got != after(task, func(t *api.Task) { t.End = api.EndBroken }) {
				t.Errorf("processor %d at %d: %+v, %d", cpu, position, got, e)
			}
		}
	}
}

func TestAnything(t *testing.T) { // P22.1: tasks, words and charts that follow no rule
	n := noise(9)
	for range 400 {
		c := api.Chart{Cpus: 1 + n.next(8), Slabs: 1 + n.next(32), Objects: 1 + n.next(16), Min: n.next(33), Cap: n.next(33), Key: n.word() >> n.next(64)}
		h := newHand(c, &n)
		for cpu := range c.Cpus {
			switch n.next(4) {
			case 0:
				h.set("head", cpu, uint64(n.next(2200)))
			default:
				h.slot(cpu, n.next(c.Slabs), n.word()>>n.next(64), n.shuffled(c.Objects)[:n.next(c.Objects+1)]...)
			}
		}
		b := newBench(t, c, h.w[:1+n.next(len(h.w)*3/2)%len(h.w)])
		for range 50 {
			task := api.Task{
				Job: n.next(6), Cpu: n.next(c.Cpus+2) - 1, Pc: positions()[n.next(8)], Slab: n.next(c.Slabs+2) - 1, Obj: n.next(c.Objects+2) - 1,
				H: n.word(), T: n.word(), F: n.word(), K: n.word(), N: n.word(), Last: n.next(c.Objects+3) - 2, Many: n.next(99), To: n.next(99), Back: n.next(99), For: n.next(9),
			}
			if n.next(2) == 0 {
				task = b.read(task)
			}
			b.hold(task)
		}
	}
}

// sameCore tells whether two cores are the same; lists that are nil are empty ones.
func sameCore(a, b api.Core) bool {
	same := slices.EqualFunc(a.Slots, b.Slots, func(a, b api.Slot) bool {
		return a.Slab == b.Slab && slices.Equal(a.List, b.List) && a.Turn == b.Turn && slices.Equal(a.Parts, b.Parts)
	})
	return same && slices.Equal(a.Shelf, b.Shelf) && a.Locked == b.Locked && slices.EqualFunc(a.Slabs, b.Slabs, func(a, b api.Slab) bool {
		return a.Counts == b.Counts && slices.Equal(a.First, b.First)
	})
}

// busyCore is a core in which a processor has a list of a slab, and everything else is there as well as there is room: others have slabs, keep some, some are on the shelf; each has free objects in its own list.
func busyCore(t *testing.T, c api.Chart, cpu, slab int, turn uint64, list []int) (*mem.Mem, api.Core) {
	t.Helper()
	n := noise(len(list))
	h := newHand(c, &n)
	for i := range c.Slabs {
		h.live(i, i%3 != 2)
		if i != slab {
			h.set("first", i, uint64(1+h.list(i, n.shuffled(c.Objects)[:n.next(c.Objects+1)]...)))
		}
	}
	for i := range c.Cpus {
		if other := (slab + 1 + i) % c.Slabs; other != slab && i != cpu {
			h.set("head", i, headWords[head{other, -1}])
		}
	}
	if c.Slabs > 2 {
		kept := (slab + c.Slabs - 1) % c.Slabs
		h.set("part", cpu, uint64(64+kept+1))
		h.set("shelf", 0, uint64((slab+c.Slabs-2)%c.Slabs+1))
		h.set("held", 0, 1)
	}
	h.slot(cpu, slab, turn, list...)
	m := memory(t, h.w)
	return m, see(t, m, c)
}

// mustTakeAndGive holds P22.2: a JobAlloc that runs alone, then a JobFree of its object, with four steps and at most four accesses each.
func mustTakeAndGive(t *testing.T, c api.Chart, cpu, slab int, turn uint64, list []int) {
	t.Helper()
	m, core := busyCore(t, c, cpu, slab, turn, list)
	accesses := m.Count()
	got := run(t, m, c, api.Task{Job: api.JobAlloc, Cpu: cpu}, 4)
	if got.End != api.EndDone || got.Want != 0 || got.Slab != slab || got.Obj != list[0] || got.Cpu != cpu {
		t.Fatalf("%+v, list %d: %+v", c, list, got)
	}
	want := core
	want.Slots = slices.Clone(core.Slots)
	want.Slots[cpu].List, want.Slots[cpu].Turn = list[1:], turn+1
	if taken := see(t, m, c); !sameCore(taken, want) {
		t.Fatalf("%+v, list %d taken from: %+v, not %+v", c, list, taken, want)
	}
	m.Store(chart.Link(c, slab, list[0]), 0xfeedfacefeedface) // whose it is may write to it
	got = run(t, m, c, api.Task{Job: api.JobFree, Cpu: cpu, Pc: 10, Slab: slab, Obj: list[0]}, 4)
	if got.End != api.EndDone || got.Want != 0 {
		t.Fatalf("%+v, list %d given to: %+v", c, list, got)
	}
	want.Slots[cpu].List, want.Slots[cpu].Turn = list, turn+2
	if given := see(t, m, c); !sameCore(given, want) {
		t.Fatalf("%+v, list %d given back to: %+v, not %+v", c, list, given, want)
	}
	if accesses = m.Count() - accesses; accesses != 9 {
		t.Fatalf("%d accesses", accesses)
	}
}

// lists are all orders of some of the objects of a slab.
func lists(objects int, found []int, each func(l []int)) {
	if len(found) > 0 {
		each(found)
	}
	for obj := range objects {
		if !slices.Contains(found, obj) {
			lists(objects, append(found[:len(found):len(found)], obj), each)
		}
	}
}

func TestAlone(t *testing.T) { // P22.2: all lists of up to four objects
	c := of(2, 4, 4)
	lists(4, nil, func(l []int) { mustTakeAndGive(t, c, 1, 2, 5, l) })
}

func TestAloneWithLongLists(t *testing.T) { // P22.2: lists of 1 to 16 objects, on each processor, of each slab
	n := noise(11)
	for _, c := range []api.Chart{of(1, 1, 16), of(3, 5, 16), of(8, 32, 16), of(8, 32, 1), of(1, 32, 7)} {
		for many := 1; many <= c.Objects; many++ {
			for slab := range c.Slabs {
				mustTakeAndGive(t, c, n.next(c.Cpus), slab, n.word(), n.shuffled(c.Objects)[:many])
			}
			for cpu := range c.Cpus {
				mustTakeAndGive(t, c, cpu, n.next(c.Slabs), math.MaxUint64-uint64(n.next(3)), n.shuffled(c.Objects)[:many])
			}
		}
	}
}

func TestAllTakenAndAllGiven(t *testing.T) { // P22.2: objects come in the order of the list until none is left, and go back in the order in which they are given
	n := noise(12)
	for _, objects := range []int{1, 2, 5, 16} {
		c := of(2, 2, objects)
		list := n.shuffled(objects)
		m, core := busyCore(t, c, 1, 0, 7, list)
		for i, obj := range list {
			got := run(t, m, c, api.Task{Job: api.JobAlloc, Cpu: 1}, 4)
			if got.End != api.EndDone || got.Slab != 0 || got.Obj != obj {
				t.Fatalf("object %d of %d: %+v", i, list, got)
			}
			m.Store(chart.Link(c, 0, obj), n.word())
		}
		mustSlot(t, see(t, m, c).Slots[1], 0, 7+uint64(objects))
		got := run(t, m, c, api.Task{Job: api.JobAlloc, Cpu: 1}, 2)
		if got.Pc != 20 || got.End != 0 || got.Slab != 0 || got.Obj != -1 {
			t.Fatalf("no object is left: %+v", got)
		}
		var given []int
		for _, obj := range n.shuffled(objects) {
			got := run(t, m, c, api.Task{Job: api.JobFree, Cpu: 1, Pc: 10, Obj: obj}, 4)
			if got.End != api.EndDone {
				t.Fatalf("%d is given back: %+v", obj, got)
			}
			given = slices.Insert(given, 0, obj)
			mustSlot(t, see(t, m, c).Slots[1], 0, 7+uint64(objects+len(given)), given...)
		}
		want := see(t, m, c)
		want.Slots[1] = core.Slots[1]
		if !sameCore(core, want) {
			t.Fatalf("%+v, not %+v", want, core)
		}
	}
}

func TestOtherProcessorsLists(t *testing.T) { // P22.2: one processor's tasks leave another one's list, also of the same slab
	c := of(2, 2, 4)
	n := noise(13)
	h := newHand(c, &n)
	h.slot(0, 1, 5, 0, 2)
	h.slot(1, 1, 6, 3, 1)
	m := memory(t, h.w)
	if got := run(t, m, c, api.Task{Job: api.JobAlloc, Cpu: 1}, 4); got.Obj != 3 || got.End != api.EndDone {
		t.Fatalf("%+v", got)
	}
	mustSlot(t, see(t, m, c).Slots[0], 1, 5, 0, 2)
	mustSlot(t, see(t, m, c).Slots[1], 1, 7, 1)
	if got := run(t, m, c, api.Task{Job: api.JobFree, Cpu: 0, Pc: 10, Slab: 1, Obj: 3}, 4); got.End != api.EndDone {
		t.Fatalf("%+v", got)
	}
	mustSlot(t, see(t, m, c).Slots[0], 1, 6, 3, 0, 2)
	mustSlot(t, see(t, m, c).Slots[1], 1, 7, 1)
}

func TestStops(t *testing.T) { // P22.1: where a JobAlloc and a JobFree leave the fast paths, and that no word is changed by then
	c := of(2, 3, 4)
	n := noise(14)
	h := newHand(c, &n)
	h.slot(1, 2, 5)
	words := slices.Clone(h.w)
	for _, s := range []struct {
		task api.Task
		want api.Task
	}{
		{api.Task{Job: 1, Cpu: 0}, api.Task{Job: 1, Cpu: 0, Pc: 30, Slab: -1, Obj: -1, T: h.w[1]}},
		{api.Task{Job: 1, Cpu: 1}, api.Task{Job: 1, Cpu: 1, Pc: 20, Slab: 2, Obj: -1, H: 192, T: 5}},
		{api.Task{Job: 2, Cpu: 0, Pc: 10, Slab: 2, Obj: 3}, api.Task{Job: 2, Cpu: 0, Pc: 50, Slab: 2, Obj: 3, T: h.w[1]}},
		{api.Task{Job: 2, Cpu: 1, Pc: 10, Slab: 1, Obj: 3}, api.Task{Job: 2, Cpu: 1, Pc: 50, Slab: 1, Obj: 3, H: 192, T: 5}},
	} {
		m := memory(t, words)
		if got := run(t, m, c, s.task, 2); got != s.want {
			t.Errorf("%+v: %+v, not %+v", s.task, got, s.want)
		}
		mustRefuse(t, api.ErrState, m, c, s.want)
		if !slices.Equal(m.Words(), words) {
			t.Errorf("%+v: words %d, not %d", s.task, m.Words(), words)
		}
	}
}

func TestGivenBackToAnEmptyList(t *testing.T) { // P22.2: the current slab has no free object
	for _, objects := range []int{1, 2, 16} {
		c := of(3, 4, objects)
		n := noise(15)
		h := newHand(c, &n)
		h.slot(2, 3, math.MaxUint64)
		m := memory(t, h.w)
		if got := run(t, m, c, api.Task{Job: api.JobFree, Cpu: 2, Pc: 10, Slab: 3, Obj: objects - 1}, 4); got.End != api.EndDone || got.Last != -1 {
			t.Fatalf("%+v", got)
		}
		mustSlot(t, see(t, m, c).Slots[2], 3, 0, objects-1)
	}
}

// The jobs of an actor, beside JobAlloc and JobFree: to take the whole list away, and to put it back.
const (
	takeAway = 10 + iota
	putBack
)

// actor does jobs one after another, at the head of processor 0.
type actor struct {
	jobs   []int
	isBusy bool
	task   api.Task
	has    []int // objects that are out, given to it
	list   []int // what it took away
}

// play is several actors at one head, in progress.
type play struct {
	t      *testing.T
	c      api.Chart
	w      []uint64
	actors []actor
	marks  func(obj int) uint64 // what an actor writes into an object that it was given
	order  string
	leads  *int // how many orders led to an end
	starts *int // how many tasks had to start again
}

// copied is the play, that can go on in another way.
func (p play) copied() play {
	p.w = slices.Clone(p.w)
	p.actors = slices.Clone(p.actors)
	for i := range p.actors {
		a := &p.actors[i]
		a.has = slices.Clone(a.has)
	}
	return p
}

// slot is what the processor has. Nothing that the chart's words mean may be wrong at any time.
func (p *play) slot() api.Slot {
	core, e := chart.See(p.w, p.c)
	if e != api.OK {
		p.t.Fatalf("%s: words %d: %d", p.order, p.w, e)
	}
	return core.Slots[0]
}

// all plays all orders of the steps that are left, up to so many.
func (p play) all(steps int) {
	is := false
	for i := range p.actors {
		a := p.actors[i]
		if steps > 0 && (a.isBusy || len(a.jobs) > 0) {
			is = true
			next := p.copied()
			next.order += strconv.Itoa(i)
			next.step(i)
			next.all(steps - 1)
		}
	}
	if !is {
		*p.leads++
	}
}

// step lets an actor make a step, and holds that each object is in the list or has been given to just one.
func (p *play) step(i int) {
	a := &p.actors[i]
	if !a.isBusy {
		p.begin(a)
	}
	before := p.slot()
	switch a.task.Job {
	case takeAway, putBack:
		p.move(a, before)
	default:
		p.access(a, before)
	}
	p.mustBeWhole()
}

// begin lets an actor have its next task.
func (p *play) begin(a *actor) {
	a.task, a.isBusy = api.Task{Job: a.jobs[0]}, true
	a.jobs = a.jobs[1:]
	if a.task.Job == api.JobFree {
		if len(a.has) == 0 {
			a.task.Job = api.JobAlloc // it could not get one
			return
		}
		a.task.Pc, a.task.Obj = 10, a.has[0]
	}
}

// move takes the whole list away, or puts it back where there is none, by one access.
func (p *play) move(a *actor, before api.Slot) {
	a.isBusy = false
	switch {
	case a.task.Job == takeAway && before.Slab == 0 && a.list == nil:
		a.list = append([]int{}, before.List...)
		p.w[0], p.w[1] = 0, p.w[1]+1
	case a.task.Job == putBack && before.Slab == -1 && a.list != nil:
		first := -1
		if len(a.list) > 0 {
			first = a.list[0]
		}
		p.w[0], p.w[1] = headWords[head{0, first}], p.w[1]+1
		a.list = nil
	}
}

// access makes a step of an actor's task.
func (p *play) access(a *actor, before api.Slot) {
	m := memory(p.t, p.w)
	old := a.task
	task, e := fast.Step(m, p.c, old)
	if e != api.OK || task.End == api.EndBroken {
		p.t.Fatalf("%s: %+v: %+v, %d", p.order, old, task, e)
	}
	a.task, p.w = task, m.Words()
	now := p.slot()
	isDone := task.End == api.EndDone
	switch {
	case isDone && task.Job == api.JobAlloc:
		if task.Slab != 0 || len(before.List) == 0 || before.List[0] != task.Obj || !slices.Equal(now.List, before.List[1:]) {
			p.t.Fatalf("%s: of %d was given %+v, and %d remain", p.order, before.List, task, now.List)
		}
		a.has = append(a.has, task.Obj)
		p.w[p.at(task.Obj)] = p.marks(task.Obj)
	case isDone:
		if !slices.Equal(now.List, append([]int{task.Obj}, before.List...)) {
			p.t.Fatalf("%s: to %d was given back %d, and %d are there", p.order, before.List, task.Obj, now.List)
		}
		a.has = slices.DeleteFunc(a.has, func(obj int) bool { return obj == task.Obj })
	case !slices.Equal(now.List, before.List) || now.Slab != before.Slab || now.Turn != before.Turn:
		p.t.Fatalf("%s: %+v: list %d, version %d, not %d, %d", p.order, old, now.List, now.Turn, before.List, before.Turn)
	}
	if isDone && now.Turn != before.Turn+1 {
		p.t.Fatalf("%s: version %d, not %d", p.order, now.Turn, before.Turn+1)
	}
	if !isDone && task.Pc%10 == 0 && task.Pc < 20 {
		*p.starts++
	}
	a.isBusy = !isDone && task.Pc < 20 // else the task goes on elsewhere, and the actor leaves it
}

// at is the index of an object's link.
func (p *play) at(obj int) int {
	return chart.Link(p.c, 0, obj)
}

// mustBeWhole holds that each object is in the list, taken away, or given to one.
func (p *play) mustBeWhole() {
	l := slices.Clone(p.slot().List)
	for _, a := range p.actors {
		l = slices.Concat(l, a.has, a.list)
	}
	slices.Sort(l)
	for i := range p.c.Objects {
		if len(l) != p.c.Objects || l[i] != i {
			p.t.Fatalf("%s: of %d objects there are %d: %+v", p.order, p.c.Objects, l, p.actors)
		}
	}
}

// marks are what actors may write into objects: nothing, noise, or what looks like a link.
func marks(c api.Chart) []func(obj int) uint64 {
	p := planOf(c)
	return []func(obj int) uint64{
		func(obj int) uint64 { return 0 },
		func(obj int) uint64 { return 0xfeedfacefeedface },
		func(obj int) uint64 { return p.links[head{0, obj}][0] },
		func(obj int) uint64 { return p.links[head{0, obj}][obj+1] },
		func(obj int) uint64 { return p.links[head{0, obj}][(obj+1)%c.Objects+1] },
		func(obj int) uint64 { return p.links[head{0, obj}][(obj+2)%c.Objects+1] },
	}
}

// played plays all orders of the steps of actors at a list: how many there were, and how often a task had to start again.
func played(t *testing.T, list []int, steps int, actors ...actor) (orders, starts int) {
	t.Helper()
	objects := len(list)
	for _, a := range actors {
		objects += len(a.has)
	}
	c := of(1, 1, objects)
	for _, mark := range marks(c) {
		n := noise(16)
		h := newHand(c, &n)
		h.slot(0, 0, math.MaxUint64-1, list...)
		for _, a := range actors {
			for _, obj := range a.has {
				h.w[h.p.at[name{"link", 0, obj}]] = mark(obj)
			}
		}
		p := play{t, c, h.w, actors, mark, "", new(int), new(int)}
		p.mustBeWhole()
		p.all(steps)
		orders, starts = *p.leads, starts+*p.starts
	}
	return orders, starts
}

func doing(jobs ...int) actor { return actor{jobs: jobs} }

func having(obj int, jobs ...int) actor { return actor{jobs: jobs, has: []int{obj}} }

const (
	alloc = api.JobAlloc
	free  = api.JobFree
)

func TestTwoTake(t *testing.T) { // P22.3: two JobAllocs at one list, in all orders of their steps
	for _, list := range [][]int{{0}, {0, 1}, {1, 0}, {2, 0, 1}, {3, 1, 0, 2}} {
		orders, starts := played(t, list, 16, doing(alloc), doing(alloc))
		if orders < 70/4 || starts == 0 {
			t.Errorf("list %d: %d orders, %d starts", list, orders, starts)
		}
	}
}

func TestOneTakesOneGives(t *testing.T) { // P22.3: a JobAlloc, and a JobFree of an object that is out
	for _, list := range [][]int{{}, {0}, {0, 1}, {1, 0}, {2, 0, 1}} {
		orders, starts := played(t, list, 16, doing(alloc), having(len(list), free))
		if orders < 15 || starts == 0 {
			t.Errorf("list %d: %d orders, %d starts", list, orders, starts)
		}
	}
}

func TestTwoGive(t *testing.T) { // P22.3: two JobFrees
	for _, list := range [][]int{{}, {0}, {1, 0}} {
		orders, starts := played(t, list, 16, having(len(list), free), having(len(list)+1, free))
		if orders < 70 || starts == 0 {
			t.Errorf("list %d: %d orders, %d starts", list, orders, starts)
		}
	}
}

func TestThree(t *testing.T) { // P22.3: three tasks at one head, as far as eight steps go
	for _, actors := range [][]actor{
		{doing(alloc), doing(alloc), doing(alloc)},
		{doing(alloc), doing(alloc), having(2, free)},
		{doing(alloc), having(2, free), having(3, free)},
	} {
		if orders, starts := played(t, []int{1, 0}, 8, actors...); orders < 1000 || starts == 0 {
			t.Errorf("%+v: %d orders, %d starts", actors, orders, starts)
		}
	}
}

func TestSameHeadAgain(t *testing.T) { // P22.3: while one task has read the head, another actor takes and gives until the head is the same word again, with another list
	for _, jobs := range [][]int{
		{alloc, alloc, free},
		{alloc, free, alloc},
		{alloc, free},
		{free, alloc, alloc},
	} {
		for _, one := range []actor{doing(alloc), having(3, free)} {
			other := having(4, jobs...)
			list := []int{1, 0, 2}
			if one.has == nil {
				other = having(3, jobs...)
			}
			orders, starts := played(t, list, 12, one, other)
			if orders < 100 || starts == 0 {
				t.Errorf("%+v, %+v: %d orders, %d starts", one, other, orders, starts)
			}
		}
	}
}

func TestTakenAwayAndPutBack(t *testing.T) { // P22.3: another one takes the whole head away between a task's steps, and puts it back
	for _, actors := range [][]actor{
		{doing(alloc), doing(takeAway, putBack)},
		{doing(alloc), doing(takeAway, putBack, takeAway, putBack)},
		{having(3, free), doing(takeAway, putBack, takeAway, putBack)},
		{doing(alloc, free), doing(takeAway, putBack)},
		{doing(alloc), doing(alloc), doing(takeAway, putBack)},
		{doing(alloc), having(3, free), doing(takeAway, putBack)},
	} {
		if orders, starts := played(t, []int{0, 2, 1}, 10, actors...); orders < 15 || starts == 0 {
			t.Errorf("%+v: %d orders, %d starts", actors, orders, starts)
		}
	}
}

func TestHeadChangedBetweenAllSteps(t *testing.T) { // P22.3: a JobAlloc whose head is taken away and put back before its swap gets its object after all, if it is let alone then
	for at := range 4 {
		c := of(1, 1, 3)
		n := noise(17)
		h := newHand(c, &n)
		h.slot(0, 0, 5, 2, 0, 1)
		m := memory(t, h.w)
		task := run(t, m, c, api.Task{Job: api.JobAlloc}, at)
		m.Store(1, 7) // twice a change: the head is as it was
		steps := 4
		if at > 0 { // it had read the version
			steps = 4 - at + 4
		}
		task = run(t, m, c, task, steps)
		if task.End != api.EndDone || task.Obj != 2 {
			t.Errorf("changed after %d steps: %+v", at, task)
		}
		mustSlot(t, see(t, m, c).Slots[0], 0, 8, 0, 1)
	}
}

func TestManyTasks(t *testing.T) { // P22.3: several actors with many jobs at long lists, in orders that follow no rule
	n := noise(18)
	for range 60 {
		many := 2 + n.next(3)
		objects := many + n.next(17-many)
		c := of(1, 1, objects)
		list := n.shuffled(objects)
		h := newHand(c, &n)
		h.slot(0, 0, n.word(), list[many:]...)
		p := play{t, c, h.w, nil, func(int) uint64 { return n.word() >> n.next(64) }, "", new(int), new(int)}
		for i := range many {
			a := actor{has: []int{list[i]}}
			for range 12 {
				a.jobs = append(a.jobs, 1+n.next(2))
			}
			p.actors = append(p.actors, a)
		}
		for range 400 {
			i := n.next(many)
			if a := p.actors[i]; a.isBusy || len(a.jobs) > 0 {
				p.order += strconv.Itoa(i)
				p.step(i)
			}
		}
	}
}

// request is a step that is asked for.
type request struct {
	c    api.Chart
	w    []uint64
	task api.Task
}

// answer is what is answered, with the words then.
type answer struct {
	task  api.Task
	e     api.Errno
	words string
}

// ask makes the step in a memory of its own.
func (r request) ask(t *testing.T) answer {
	m := memory(t, r.w)
	task, e := fast.Step(m, r.c, r.task)
	words := ""
	for _, w := range m.Words() {
		words += strconv.FormatUint(w, 16) + " "
	}
	return answer{task, e, words}
}

// requests are of all sorts.
func requests() []request {
	n := noise(19)
	var l []request
	for range 300 {
		c := of(1+n.next(2), 1+n.next(3), 1+n.next(4))
		h := newHand(c, &n)
		h.slot(0, 0, 5, n.shuffled(c.Objects)...)
		r := request{c, h.w, plainTask(n.next(15))}
		r.task.Cpu, r.task.Slab, r.task.Obj = n.next(2), n.next(2), n.next(2)
		r.task.H, r.task.T = h.w[0], 5
		l = append(l, r)
	}
	return l
}

func TestSameAnswers(t *testing.T) { // R2: again, the other way round, and from several goroutines
	l := requests()
	var first []answer
	for _, r := range l {
		first = append(first, r.ask(t))
	}
	for at := range slices.Backward(l) {
		if got := l[at].ask(t); got != first[at] {
			t.Fatalf("%+v: %+v, not %+v", l[at], got, first[at])
		}
	}
	var others sync.WaitGroup
	for range 4 {
		others.Go(func() {
			for at, r := range l {
				if got := r.ask(t); got != first[at] {
					t.Errorf("%+v: %+v, not %+v", r, got, first[at])
					return
				}
			}
		})
	}
	others.Wait()
}

func TestEarlierAccesses(t *testing.T) { // R2: what a memory has been through does not count, its words do
	c := of(1, 2, 3)
	n := noise(20)
	h := newHand(c, &n)
	h.slot(0, 1, 5, 2, 1)
	for _, position := range positions() {
		m := memory(t, h.w)
		fresh := newBench(t, c, h.w)
		task := fresh.read(after(plainTask(position), func(t *api.Task) { t.Cpu, t.Slab = 0, 1 }))
		for range 9 {
			run(t, m, c, api.Task{Job: api.JobAlloc}, 4)
			fast.Step(m, c, api.Task{Pc: 99})
			fast.Step(m, c, api.Task{Cpu: -1})
			for at, w := range h.w {
				m.Store(at, w)
			}
		}
		task.Obj = 2
		want := fresh.hold(task)
		if got, e := fast.Step(m, c, task); got != want || e != api.OK {
			t.Errorf("%+v: %+v, %d, not %+v", task, got, e, want)
		}
	}
}

// left is the panic that leaves calls.
func left(calls func()) (panicked any) {
	defer func() { panicked = recover() }()
	calls()
	return nil
}

func TestNoPanicLeaves(t *testing.T) { // R1: edges in all places at once, in all sorts of memories
	n := noise(21)
	edges := []int{math.MinInt, math.MinInt + 1, -2, -1, 0, 1, 2, 3, 4, 15, 16, 31, 32, 1 << 31, 1 << 58, math.MaxInt - 1, math.MaxInt}
	some := func() int { return edges[n.next(len(edges))] }
	charts := append(wrongCharts(), someCharts()...)
	memories := []*mem.Mem{nil, {}, memory(t, n.words(1)), memory(t, n.words(2)), memory(t, make([]uint64, 36)), memory(t, n.words(4096))}
	for range 20000 {
		c := charts[n.next(len(charts))]
		task := api.Task{Job: some(), Cpu: some(), Pc: pcEdges()[n.next(len(pcEdges()))], Slab: some(), Obj: some(), H: n.word(), T: n.word(), F: n.word(), K: n.word(), N: n.word(), Last: some(), Many: some(), To: some(), Back: some(), For: some()}
		if n.next(4) == 0 {
			task.End, task.Want = some(), some()
		}
		m := memories[n.next(len(memories))]
		if p := left(func() { fast.Step(m, c, task) }); p != nil {
			t.Fatalf("%+v, %+v: panic %v", c, task, p)
		}
	}
}

func TestWithTheLayersBelow(t *testing.T) { // a core that is made by the layers below is taken from and given to, and they tell what came of it
	for _, c := range someCharts() {
		m, e := mem.New(chart.Words(c))
		if e != api.OK {
			t.Fatal(e)
		}
		cpu, slab := c.Cpus-1, c.Slabs-1
		links, _ := link.Fresh(c.Objects, chart.Key(c, slab))
		for obj, w := range links {
			m.Store(chart.Link(c, slab, obj), w)
		}
		w, _ := count.Head(slab, 0)
		m.Store(chart.Head(c, cpu), w)
		w, _ = count.Pack(api.Counts{Inuse: c.Objects, Objects: c.Objects, Frozen: true, Live: true})
		m.Store(chart.First(c, slab)+1, w)
		for obj := range c.Objects {
			got := run(t, m, c, api.Task{Job: api.JobAlloc, Cpu: cpu}, 4)
			if got.End != api.EndDone || got.Slab != slab || got.Obj != obj {
				t.Fatalf("%+v: %+v", c, got)
			}
			w, _ := m.Load(chart.Head(c, cpu))
			next := obj + 1
			if next == c.Objects {
				next = -1
			}
			if s, o, is := count.HeadOf(w); s != slab || o != next || !is {
				t.Fatalf("%+v: head %d, %d", c, s, o)
			}
		}
		for obj := range c.Objects {
			if got := run(t, m, c, api.Task{Job: api.JobFree, Cpu: cpu, Pc: 10, Slab: slab, Obj: obj}, 4); got.End != api.EndDone {
				t.Fatalf("%+v: %+v", c, got)
			}
			w, _ := m.Load(chart.Link(c, slab, obj))
			if next, is := link.Show(w, chart.Key(c, slab), obj); next != obj-1 || !is {
				t.Fatalf("%+v: the link of %d is to %d", c, obj, next)
			}
		}
	}
}
