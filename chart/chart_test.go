package chart_test

import (
	"fmt"
	"math"
	"math/big"
	"math/bits"
	"slices"
	"strconv"
	"sync"
	"testing"

	"wainscot/api"
	"wainscot/chart"
	"wainscot/count"
	"wainscot/link"
	"wainscot/mem"
)

// The tests hold the package against the chapter said a second time, in another way: the words of a core are laid out one by one, in the order of the Definitions, each with its name, and an index is where a name then is; all words that are heads, parts, counts, and links of an object are listed, and what a word means is looked up there; and a list is followed blindly, as far as there are slabs or objects, and runs in a circle if it has not ended then. Cores are written by a hand that knows the names alone, and leaves noise wherever it writes nothing. P21.4 and P21.5 are held against what the package itself tells as well.

// multiplier and keyStep are what is added to a key for each object, and for each slab.
const (
	multiplier = 2654435769
	keyStep    = 11400714819323198485
)

// name is that of a word: what it is, of which processor or slab, and of which object.
type name struct {
	what   string
	i, obj int
}

// laidOut is the words of a core, in the order of the Definitions.
func laidOut(cpus, slabs, objects int) []name {
	var l []name
	for cpu := range cpus {
		l = append(l, name{"head", cpu, 0}, name{"turn of head", cpu, 0}, name{"part", cpu, 0}, name{"turn of part", cpu, 0})
	}
	l = append(l, name{"lock", 0, 0}, name{"shelf", 0, 0}, name{"held", 0, 0}, name{"unused", 0, 0})
	for slab := range slabs {
		l = append(l, name{"first", slab, 0}, name{"counts", slab, 0}, name{"next", slab, 0}, name{"unused of slab", slab, 0})
	}
	for slab := range slabs {
		for obj := range objects {
			l = append(l, name{"link", slab, obj})
		}
	}
	return l
}

// head is a slab and an object of it.
type head struct{ slab, obj int }

// plan is a chart, where its words are, and what words may be in them.
type plan struct {
	c      api.Chart
	names  []name
	at     map[name]int
	heads  map[uint64]head
	parts  map[uint64]int // the slab; -1: none
	counts map[uint64]api.Counts
	links  map[name][]uint64 // to none, to object 0, to 1 ..
}

// keyOf is the key of a slab, which is stepped to slab by slab.
func keyOf(key uint64, slab int) uint64 {
	for range slab {
		key += keyStep
	}
	return key
}

// linkOf is the link of an object to another one.
func linkOf(key uint64, at, next int) uint64 {
	return (bits.RotateLeft64(key, 5*at) + uint64(at)*multiplier) ^ uint64(next+1)
}

// countsWord is the word of counts of a live slab.
func countsWord(c api.Counts) uint64 {
	w := uint64(131072 + 256*c.Objects + c.Inuse)
	if c.Frozen {
		w += 65536
	}
	return w
}

// partWord is the word of a slab and how many there are from it on.
func partWord(slab, many int) uint64 { return uint64(64*many + slab + 1) }

// headWord is the word of a slab and an object.
func headWord(slab, obj int) uint64 { return uint64(64*(slab+1) + obj + 1) }

// planned is the plan of a chart that is valid.
func planned(c api.Chart) *plan {
	p := &plan{c, laidOut(c.Cpus, c.Slabs, c.Objects), map[name]int{}, map[uint64]head{0: {-1, -1}}, map[uint64]int{0: -1}, map[uint64]api.Counts{0: {}}, map[name][]uint64{}}
	for at, n := range p.names {
		p.at[n] = at
	}
	for slab := range c.Slabs {
		for obj := -1; obj < c.Objects; obj++ {
			p.heads[headWord(slab, obj)] = head{slab, obj}
		}
		for many := 1; many <= 63; many++ {
			p.parts[partWord(slab, many)] = slab
		}
		for obj := range c.Objects {
			for next := -1; next < c.Objects; next++ {
				n := name{"link", slab, obj}
				p.links[n] = append(p.links[n], linkOf(keyOf(c.Key, slab), obj, next))
			}
		}
	}
	for objects := 1; objects <= 16; objects++ {
		for inuse := range objects + 1 {
			for _, frozen := range []bool{false, true} {
				counts := api.Counts{Inuse: inuse, Objects: objects, Frozen: frozen, Live: true}
				p.counts[countsWord(counts)] = counts
			}
		}
	}
	return p
}

// plans are those that were asked for, which are slow to make.
var plans = map[api.Chart]*plan{}

// planOf is the plan of a chart that is valid.
func planOf(c api.Chart) *plan {
	if plans[c] == nil {
		plans[c] = planned(c)
	}
	return plans[c]
}

// numbers are some that follow each other.
func numbers(from, to int) map[int]bool {
	l := map[int]bool{}
	for n := from; n != to+1; n++ {
		l[n] = true
	}
	return l
}

// The numbers that a chart may have.
var cpuNumbers, slabNumbers, objectNumbers, keptNumbers = numbers(1, 8), numbers(1, 32), numbers(1, 16), numbers(0, 32)

// isChart tells whether a chart is valid.
func isChart(c api.Chart) bool {
	return cpuNumbers[c.Cpus] && slabNumbers[c.Slabs] && objectNumbers[c.Objects] && keptNumbers[c.Min] && keptNumbers[c.Cap]
}

// objects is the list of a slab from an object on; false: it is none.
func (p *plan) objects(w []uint64, slab, obj int) (l []int, is bool) {
	for range p.c.Objects {
		if obj == -1 {
			break
		}
		l = append(l, obj)
		n := name{"link", slab, obj}
		if obj = slices.Index(p.links[n], w[p.at[n]]) - 1; obj == -2 {
			return nil, false
		}
	}
	return l, obj == -1
}

// ofPart and ofShelf are the slab that a word of a list of slabs refers to; -2: it is no such word.
func (p *plan) ofPart(w uint64) int {
	if slab, is := p.parts[w]; is {
		return slab
	}
	return -2
}

func (p *plan) ofShelf(w uint64) int {
	for slab := -1; slab < p.c.Slabs; slab++ {
		if w == uint64(slab+1) {
			return slab
		}
	}
	return -2
}

// slabs is a list of slabs from one on; false: it is none.
func (p *plan) slabs(w []uint64, slab int, of func(w uint64) int) (l []int, is bool) {
	for range p.c.Slabs {
		if slab < 0 {
			break
		}
		l = append(l, slab)
		slab = of(w[p.at[name{"next", slab, 0}]])
	}
	return l, slab == -1
}

// slot is what a processor has; false: its words are wrong.
func (p *plan) slot(w []uint64, cpu int) (s api.Slot, is bool) {
	h, isHead := p.heads[w[p.at[name{"head", cpu, 0}]]]
	if !isHead {
		return s, false
	}
	list, isList := p.objects(w, h.slab, h.obj)
	parts, areParts := p.slabs(w, p.ofPart(w[p.at[name{"part", cpu, 0}]]), p.ofPart)
	return api.Slot{Slab: h.slab, List: list, Turn: w[p.at[name{"turn of head", cpu, 0}]], Parts: parts}, isList && areParts
}

// slab is what a slab has; false: its words are wrong.
func (p *plan) slab(w []uint64, slab int) (s api.Slab, is bool) {
	counts, areCounts := p.counts[w[p.at[name{"counts", slab, 0}]]]
	first := w[p.at[name{"first", slab, 0}]]
	for obj := -1; obj < p.c.Objects; obj++ {
		if first == uint64(obj+1) {
			list, isList := p.objects(w, slab, obj)
			return api.Slab{Counts: counts, First: list}, areCounts && isList
		}
	}
	return s, false
}

// wantSee is what See has to return.
func wantSee(w []uint64, c api.Chart) (api.Core, api.Errno) {
	if !isChart(c) || len(w) != len(planOf(c).names) {
		return api.Core{}, api.ErrArg
	}
	p := planOf(c)
	core := api.Core{Locked: w[p.at[name{"lock", 0, 0}]] != 0}
	shelf, is := p.slabs(w, p.ofShelf(w[p.at[name{"shelf", 0, 0}]]), p.ofShelf)
	core.Shelf = shelf
	for cpu := range c.Cpus {
		s, isSlot := p.slot(w, cpu)
		core.Slots, is = append(core.Slots, s), is && isSlot
	}
	for slab := range c.Slabs {
		s, isSlab := p.slab(w, slab)
		core.Slabs, is = append(core.Slabs, s), is && isSlab
	}
	if !is {
		return api.Core{}, api.ErrSlab
	}
	return core, api.OK
}

// sameCore tells whether two cores are the same; nil and empty lists are.
func sameCore(a, b api.Core) bool {
	return slices.Equal(a.Shelf, b.Shelf) && a.Locked == b.Locked &&
		slices.EqualFunc(a.Slots, b.Slots, func(a, b api.Slot) bool {
			return a.Slab == b.Slab && slices.Equal(a.List, b.List) && a.Turn == b.Turn && slices.Equal(a.Parts, b.Parts)
		}) &&
		slices.EqualFunc(a.Slabs, b.Slabs, func(a, b api.Slab) bool {
			return a.Counts == b.Counts && slices.Equal(a.First, b.First)
		})
}

// listsOf are all lists of numbers of a core.
func listsOf(c api.Core) [][]int {
	l := [][]int{c.Shelf}
	for _, s := range c.Slots {
		l = append(l, s.List, s.Parts)
	}
	for _, s := range c.Slabs {
		l = append(l, s.First)
	}
	return l
}

// cloned is a core with memory of its own.
func cloned(c api.Core) api.Core {
	c.Shelf, c.Slots, c.Slabs = slices.Clone(c.Shelf), slices.Clone(c.Slots), slices.Clone(c.Slabs)
	for i, s := range c.Slots {
		c.Slots[i].List, c.Slots[i].Parts = slices.Clone(s.List), slices.Clone(s.Parts)
	}
	for i, s := range c.Slabs {
		c.Slabs[i].First = slices.Clone(s.First)
	}
	return c
}

// mustBeApart holds the lists of a core against P21.3: no two of them share memory, their unused capacity included. They are written over.
func mustBeApart(t *testing.T, c api.Core) {
	t.Helper()
	lists := listsOf(c)
	for mark, l := range lists {
		for at := range l[:cap(l)] {
			l[:cap(l)][at] = -1000 - mark
		}
	}
	for mark, l := range lists {
		for _, n := range l[:cap(l)] {
			if n != -1000-mark {
				t.Fatal("two lists of a core share memory")
			}
		}
	}
	for at := range c.Slots[:cap(c.Slots)] {
		c.Slots[:cap(c.Slots)][at] = api.Slot{Slab: -77}
	}
	for at := range c.Slabs[:cap(c.Slabs)] {
		c.Slabs[:cap(c.Slabs)][at] = api.Slab{First: []int{-78}}
	}
}

// lend is words with memory behind them, which is told as well.
func lend(w []uint64) (all, lent []uint64) {
	all = append(slices.Clone(w), 65, 1, 0, 131328)
	return all, all[:len(w)]
}

// mustSee holds a See against the model, and its memory against P21.3.
func mustSee(t *testing.T, w []uint64, c api.Chart) (api.Core, api.Errno) {
	t.Helper()
	all, lent := lend(w)
	was := slices.Clone(all)
	want, wantE := wantSee(w, c)
	core, e := chart.See(lent, c)
	if !sameCore(core, want) || e != wantE {
		t.Fatalf("See(%d, %+v): %+v, %d, not %+v, %d", w, c, core, e, want, wantE)
	}
	kept := cloned(core)
	for at := range all {
		all[at] = 79
	}
	if !sameCore(core, kept) {
		t.Fatalf("See(%d, %+v): %+v has become %+v", w, c, kept, core)
	}
	copy(all, was)
	mustBeApart(t, core)
	if !slices.Equal(all, was) {
		t.Fatalf("See(%d, %+v) or what was written into its result has made %d of the words", w, c, all)
	}
	return kept, e
}

// noise gives words without a pattern, the same ones each time.
type noise uint64

func (n *noise) word() uint64 {
	var w uint64
	for range 2 {
		*n = *n*6364136223846793005 + 1442695040888963407
		w = w<<32 | uint64(*n)>>32
	}
	return w
}

func (n *noise) next(below int) int {
	return int(n.word() % uint64(below))
}

// shuffled is the numbers below another one, in an order without a pattern.
func (n *noise) shuffled(many int) []int {
	var l []int
	for i := range many {
		l = slices.Insert(l, n.next(i+1), i)
	}
	return l
}

// hand writes the words of a core by their names. All that it does not write is noise.
type hand struct {
	p       *plan
	w       []uint64
	written map[int]bool
}

// newHand has written nothing.
func newHand(c api.Chart) *hand {
	h := &hand{planOf(c), nil, map[int]bool{}}
	n := noise(c.Key)
	for range h.p.names {
		h.w = append(h.w, n.word())
	}
	return h
}

// write writes a word. It may be written twice only if it is the same one.
func (h *hand) write(n name, w uint64) {
	at, is := h.p.at[n]
	if !is || h.written[at] && h.w[at] != w {
		panic(fmt.Sprint("not writable: ", n, w))
	}
	h.w[at], h.written[at] = w, true
}

// objects writes the links of a list, and is its first object; -1: none.
func (h *hand) objects(slab int, l []int) int {
	next := -1
	for _, obj := range slices.Backward(l) {
		h.write(name{"link", slab, obj}, linkOf(keyOf(h.p.c.Key, slab), obj, next))
		next = obj
	}
	return next
}

// parts writes the nexts of slabs that a processor keeps, and is the word of them all.
func (h *hand) parts(l []int) uint64 {
	w := uint64(0)
	for i, slab := range slices.Backward(l) {
		h.write(name{"next", slab, 0}, w)
		w = partWord(slab, len(l)-i)
	}
	return w
}

// shelf writes the nexts of slabs on the shelf, and is the word of them all.
func (h *hand) shelf(l []int) uint64 {
	w := uint64(0)
	for _, slab := range slices.Backward(l) {
		h.write(name{"next", slab, 0}, w)
		w = uint64(slab + 1)
	}
	return w
}

// core writes all that a core says.
func (h *hand) core(c api.Core) {
	for cpu, s := range c.Slots {
		w := uint64(0)
		if s.Slab != -1 {
			w = headWord(s.Slab, h.objects(s.Slab, s.List))
		}
		h.write(name{"head", cpu, 0}, w)
		h.write(name{"turn of head", cpu, 0}, s.Turn)
		h.write(name{"part", cpu, 0}, h.parts(s.Parts))
	}
	h.write(name{"shelf", 0, 0}, h.shelf(c.Shelf))
	h.write(name{"lock", 0, 0}, map[bool]uint64{true: 1, false: 0}[c.Locked])
	for slab, s := range c.Slabs {
		h.write(name{"first", slab, 0}, uint64(h.objects(slab, s.First)+1))
		w := uint64(0)
		if s.Counts.Live {
			w = countsWord(s.Counts)
		}
		h.write(name{"counts", slab, 0}, w)
	}
}

// handwritten is the hand that has written a core.
func handwritten(chart api.Chart, c api.Core) *hand {
	h := newHand(chart)
	h.core(c)
	return h
}

// emptyCore is one without slabs.
func emptyCore(c api.Chart) api.Core {
	core := api.Core{Slots: make([]api.Slot, c.Cpus), Slabs: make([]api.Slab, c.Slabs)}
	for cpu := range core.Slots {
		core.Slots[cpu].Slab = -1
	}
	return core
}

// dealt is a core in which slabs and objects are dealt without a pattern, each slab to one place at most, each object to one list at most.
func dealt(n *noise, c api.Chart) api.Core {
	core := emptyCore(c)
	core.Locked = n.next(2) == 0
	free := make([][]int, c.Slabs)
	for slab := range core.Slabs {
		free[slab] = n.shuffled(c.Objects)
		own := free[slab][:n.next(c.Objects+1)]
		free[slab] = free[slab][len(own):]
		core.Slabs[slab].First = own
		if n.next(4) > 0 {
			core.Slabs[slab].Counts = api.Counts{Inuse: n.next(c.Objects + 1), Objects: c.Objects, Frozen: n.next(2) == 0, Live: true}
		}
	}
	for _, slab := range n.shuffled(c.Slabs) {
		s := &core.Slots[n.next(c.Cpus)]
		switch n.next(4) {
		case 0:
			core.Shelf = append(core.Shelf, slab)
		case 1:
			if s.Slab == -1 {
				s.Slab, s.List = slab, free[slab][n.next(len(free[slab])+1):]
			}
		case 2:
			s.Parts = append(s.Parts, slab)
		}
	}
	for cpu := range core.Slots {
		core.Slots[cpu].Turn = n.word()
	}
	return core
}

// of is a chart with few numbers.
func of(cpus, slabs, objects int) api.Chart {
	return api.Chart{Cpus: cpus, Slabs: slabs, Objects: objects, Min: 1, Cap: 2, Key: 0xfedcba9876543210}
}

// allCores are charts with all numbers of processors, slabs and objects.
func allCores() []api.Chart {
	var l []api.Chart
	for cpus := 1; cpus <= 8; cpus++ {
		for slabs := 1; slabs <= 32; slabs++ {
			for objects := 1; objects <= 16; objects++ {
				l = append(l, api.Chart{Cpus: cpus, Slabs: slabs, Objects: objects, Min: (cpus * slabs) % 33, Cap: (slabs + objects) % 33, Key: uint64(cpus*slabs) << objects})
			}
		}
	}
	return l
}

// Numbers at the edges of what a chart may have, and far from it.
func cpuEdges() []int    { return []int{math.MinInt, -1, 0, 1, 8, 9, math.MaxInt} }
func slabEdges() []int   { return []int{math.MinInt, -1, 0, 1, 8, 9, 32, 33, math.MaxInt} }
func objectEdges() []int { return []int{math.MinInt, -1, 0, 1, 8, 9, 16, 17, math.MaxInt} }
func keptEdges() []int   { return []int{math.MinInt, -1, 0, 32, 33, math.MaxInt} }

// ends are numbers that no chart has of anything, and some that look like one of these if bits of them are left out.
func ends() []int {
	return []int{math.MinInt, math.MinInt + 1, math.MinInt + 8, math.MinInt32, -1<<32 + 1, -1 << 32, -257, -256, -255, -65, -64, -33, -32, -31, -17, -16, -9, -8, -4, -3, -2,
		34, 63, 64, 65, 100, 127, 128, 255, 256, 257, 4095, 4096, 65536, 65537, math.MaxInt32, 1 << 31, 1 << 32, 1<<32 + 1, 1<<32 + 8, 1 << 59, 1 << 60, 1 << 61, 1 << 62, 1<<62 + 1, math.MaxInt - 4, math.MaxInt - 1}
}

// wrongCharts are charts that are not valid, most of them because of one number.
func wrongCharts() []api.Chart {
	l := []api.Chart{{}, {Key: 1}, {Cpus: -1, Slabs: -1, Objects: -1, Min: -1, Cap: -1}, {Cpus: 9, Slabs: 33, Objects: 17, Min: 33, Cap: 33}, {Cpus: -2, Slabs: -3, Objects: -4}, {Cpus: -1, Slabs: 1, Objects: 1}}
	for _, good := range []api.Chart{of(1, 1, 1), of(2, 3, 4), {Cpus: 8, Slabs: 32, Objects: 16, Min: 32, Cap: 32, Key: 1<<64 - 1}} {
		for _, n := range append(ends(), -1, 33, math.MaxInt) {
			for which := range 5 {
				c := good
				*[]*int{&c.Cpus, &c.Slabs, &c.Objects, &c.Min, &c.Cap}[which] = n
				l = append(l, c)
			}
		}
		for _, n := range []int{0, 9, 17, 33} {
			c := good
			c.Cpus = n
			l = append(l, c)
		}
		for _, n := range []int{0, 17, 33} {
			c := good
			c.Objects = n
			l = append(l, c)
		}
		good.Slabs = 0
		l = append(l, good)
	}
	return l
}

func TestExamples(t *testing.T) { // of the chapter
	c := api.Chart{Cpus: 2, Slabs: 3, Objects: 4}
	for what, n := range map[string][2]int{
		"Words": {chart.Words(c), 36}, "Head of 1": {chart.Head(c, 1), 4}, "Part of 1": {chart.Part(c, 1), 6}, "Lock": {chart.Lock(c), 8}, "Held": {chart.Held(c), 10},
		"First of 0": {chart.First(c, 0), 12}, "Next of 2": {chart.Next(c, 2), 22}, "Link of 2 and 3": {chart.Link(c, 2, 3), 35}, "Link of 2 and 4": {chart.Link(c, 2, 4), -1},
	} {
		if n[0] != n[1] {
			t.Errorf("%s: %d, not %d", what, n[0], n[1])
		}
	}
	core, e := chart.See(make([]uint64, 36), c)
	if want := emptyCore(c); !sameCore(core, want) || e != api.OK {
		t.Errorf("See of 36 zero words: %+v, %d, not %+v", core, e, want)
	}
	if len(core.Slots) != 2 || core.Slots[0].Slab != -1 || core.Slots[1].Slab != -1 || len(core.Slabs) != 3 || slices.ContainsFunc(core.Slabs, func(s api.Slab) bool { return s.Counts.Live }) {
		t.Errorf("See of 36 zero words: %+v", core)
	}
}

// mustCheck holds a Check against the model.
func mustCheck(t *testing.T, c api.Chart) api.Errno {
	t.Helper()
	want := api.ErrArg
	if isChart(c) {
		want = api.OK
	}
	e := chart.Check(c)
	if e != want {
		t.Fatalf("Check(%+v): %d, not %d", c, e, want)
	}
	return e
}

func TestCheckEdges(t *testing.T) { // P21.1: all edges, together
	seen := map[api.Errno]int{}
	for _, cpus := range cpuEdges() {
		for _, slabs := range slabEdges() {
			for _, objects := range objectEdges() {
				for _, least := range keptEdges() {
					for _, most := range keptEdges() {
						seen[mustCheck(t, api.Chart{Cpus: cpus, Slabs: slabs, Objects: objects, Min: least, Cap: most, Key: 1})]++
					}
				}
			}
		}
	}
	if len(seen) != 2 || seen[api.OK] != 2*4*4*2*2 {
		t.Error("errors:", seen)
	}
}

// mustAll holds all valid numbers of processors, slabs and objects, with another number, against what is wanted, without the model.
func mustAll(t *testing.T, want api.Errno, change func(c *api.Chart)) {
	t.Helper()
	for _, c := range allCores() {
		change(&c)
		if e := chart.Check(c); e != want {
			t.Fatalf("Check(%+v): %d, not %d", c, e, want)
		}
		if many := chart.Words(c); (many == 0) != (want != api.OK) {
			t.Fatalf("Words(%+v): %d", c, many)
		}
	}
}

func TestOneNumberWithAllOthersValid(t *testing.T) { // P21.1
	for n, want := range map[int][5]api.Errno{ // of Cpus, Slabs, Objects, Min, Cap
		math.MinInt: {2, 2, 2, 2, 2}, -1 << 32: {2, 2, 2, 2, 2}, -8: {2, 2, 2, 2, 2}, -1: {2, 2, 2, 2, 2}, 0: {2, 2, 2, 0, 0}, 1: {},
		8: {}, 9: {2, 0, 0, 0, 0}, 16: {2, 0, 0, 0, 0}, 17: {2, 0, 2, 0, 0}, 32: {2, 0, 2, 0, 0}, 33: {2, 2, 2, 2, 2}, 64: {2, 2, 2, 2, 2}, 1<<32 + 1: {2, 2, 2, 2, 2}, math.MaxInt: {2, 2, 2, 2, 2},
	} {
		mustAll(t, want[0], func(c *api.Chart) { c.Cpus = n })
		mustAll(t, want[1], func(c *api.Chart) { c.Slabs = n })
		mustAll(t, want[2], func(c *api.Chart) { c.Objects = n })
		mustAll(t, want[3], func(c *api.Chart) { c.Min = n })
		mustAll(t, want[4], func(c *api.Chart) { c.Cap = n })
		mustAll(t, api.OK, func(c *api.Chart) { c.Key = uint64(n) })
	}
}

func TestCheckAll(t *testing.T) { // P21.1: all that are valid, and those about them
	valid := 0
	for cpus := -2; cpus <= 10; cpus++ {
		for slabs := -2; slabs <= 34; slabs++ {
			for objects := -2; objects <= 18; objects++ {
				for _, kept := range [][2]int{{0, 0}, {0, 32}, {32, 0}, {32, 32}, {3, 30}, {-1, 5}, {5, -1}, {33, 5}, {5, 33}, {33, -1}} {
					if mustCheck(t, api.Chart{Cpus: cpus, Slabs: slabs, Objects: objects, Min: kept[0], Cap: kept[1]}) == api.OK {
						valid++
					}
				}
			}
		}
	}
	for least := -5; least <= 40; least++ {
		for most := -5; most <= 40; most++ {
			for _, c := range []api.Chart{of(1, 1, 1), of(2, 3, 4), of(8, 32, 16), of(0, 1, 1), of(1, 33, 1), of(8, 32, 17)} {
				c.Min, c.Cap = least, most
				if mustCheck(t, c) == api.OK {
					valid++
				}
			}
		}
	}
	if valid != 8*32*16*5+33*33*3 {
		t.Error("valid:", valid)
	}
}

// asked are the indices that a test asks for: all of a chart, those about them, and those far from them.
func asked(many int) []int {
	l := append(ends(), -1, math.MaxInt, 33)
	for i := range many + 2 {
		l = append(l, i)
	}
	return l
}

// indexOf is the index of a word; -1: there is none.
func indexOf(at map[name]int, n name) int {
	if i, is := at[n]; is {
		return i
	}
	return -1
}

// mustStand holds all indices of a chart against a core that is laid out, or against none.
func mustStand(t *testing.T, c api.Chart, words []name) {
	t.Helper()
	at := map[name]int{}
	for i, n := range words {
		at[n] = i
	}
	must := func(n name, got int) {
		t.Helper()
		if want := indexOf(at, n); got != want {
			t.Fatalf("%+v of %+v: %d, not %d", n, c, got, want)
		}
	}
	if many := chart.Words(c); many != len(words) {
		t.Fatalf("Words(%+v): %d, not %d", c, many, len(words))
	}
	must(name{"lock", 0, 0}, chart.Lock(c))
	must(name{"shelf", 0, 0}, chart.Shelf(c))
	must(name{"held", 0, 0}, chart.Held(c))
	for _, cpu := range asked(8) {
		must(name{"head", cpu, 0}, chart.Head(c, cpu))
		must(name{"part", cpu, 0}, chart.Part(c, cpu))
	}
	for _, slab := range asked(32) {
		must(name{"first", slab, 0}, chart.First(c, slab))
		must(name{"next", slab, 0}, chart.Next(c, slab))
		must(name{"link", slab, 0}, chart.Link(c, slab, 0))
	}
	for slab := -1; slab <= 33; slab++ {
		for obj := -1; obj <= 17; obj++ {
			must(name{"link", slab, obj}, chart.Link(c, slab, obj))
		}
	}
	for _, n := range asked(0) {
		must(name{"link", 0, n}, chart.Link(c, 0, n))
		must(name{"link", n, n}, chart.Link(c, n, n))
	}
}

func TestIndices(t *testing.T) { // P21.1: for all numbers of processors, slabs and objects
	for _, c := range allCores() {
		mustStand(t, c, laidOut(c.Cpus, c.Slabs, c.Objects))
	}
}

func TestIndicesOfNoChart(t *testing.T) { // P21.1
	for _, c := range wrongCharts() {
		if isChart(c) {
			t.Fatalf("%+v is valid", c)
		}
		mustStand(t, c, nil)
	}
	for _, cpus := range cpuEdges() {
		for _, slabs := range slabEdges() {
			for _, objects := range objectEdges() {
				if c := of(cpus, slabs, objects); !isChart(c) {
					mustStand(t, c, nil)
				}
			}
		}
	}
}

func TestIndicesOfNoLink(t *testing.T) { // P21.1: each edge of a slab with each one of an object
	for _, c := range []api.Chart{of(1, 1, 1), of(2, 3, 4), of(8, 32, 16)} {
		slabs, objects := asked(c.Slabs), asked(c.Objects)
		for _, slab := range slabs {
			for _, obj := range objects {
				if at, want := chart.Link(c, slab, obj), indexOf(planOf(c).at, name{"link", slab, obj}); at != want {
					t.Fatalf("Link(%+v, %d, %d): %d, not %d", c, slab, obj, at, want)
				}
			}
		}
	}
}

func TestIndicesWorkedOut(t *testing.T) { // P21.1
	for _, want := range []struct {
		c                                            api.Chart
		words, lock, shelf, held                     int
		head, part, first, next, link, before, start int // of the last ones; the link before the last one; the first of slab 0
	}{
		{of(1, 1, 1), 13, 4, 5, 6, 0, 2, 8, 10, 12, -1, 8},
		{of(1, 1, 2), 14, 4, 5, 6, 0, 2, 8, 10, 13, 12, 8},
		{of(1, 2, 1), 18, 4, 5, 6, 0, 2, 12, 14, 17, -1, 8},
		{of(2, 1, 1), 17, 8, 9, 10, 4, 6, 12, 14, 16, -1, 12},
		{of(8, 32, 16), 676, 32, 33, 34, 28, 30, 160, 162, 675, 674, 36},
		{of(3, 5, 7), 71, 12, 13, 14, 8, 10, 32, 34, 70, 69, 16},
		{of(8, 1, 16), 56, 32, 33, 34, 28, 30, 36, 38, 55, 54, 36},
		{of(1, 32, 1), 168, 4, 5, 6, 0, 2, 132, 134, 167, -1, 8},
	} {
		c := want.c
		cpu, slab, obj := c.Cpus-1, c.Slabs-1, c.Objects-1
		got := []int{chart.Words(c), chart.Lock(c), chart.Shelf(c), chart.Held(c), chart.Head(c, cpu), chart.Part(c, cpu), chart.First(c, slab), chart.Next(c, slab), chart.Link(c, slab, obj), chart.Link(c, slab, obj-1), chart.First(c, 0)}
		if all := []int{want.words, want.lock, want.shelf, want.held, want.head, want.part, want.first, want.next, want.link, want.before, want.start}; !slices.Equal(got, all) {
			t.Errorf("%+v: %d, not %d", c, got, all)
		}
		if chart.Head(c, cpu+1) != -1 || chart.Part(c, cpu+1) != -1 || chart.First(c, slab+1) != -1 || chart.Next(c, slab+1) != -1 || chart.Link(c, slab+1, 0) != -1 || chart.Link(c, 0, obj+1) != -1 {
			t.Errorf("%+v has one more", c)
		}
	}
}

func TestOnlyNumbersOfThingsMoveWords(t *testing.T) { // P21.1: not Min, Cap, or Key
	want := laidOut(2, 3, 4)
	for least := range 33 {
		for most := range 33 {
			for _, key := range []uint64{0, 1, 1 << 63, 1<<64 - 1} {
				c := api.Chart{Cpus: 2, Slabs: 3, Objects: 4, Min: least, Cap: most, Key: key}
				if chart.Words(c) != len(want) || chart.Lock(c) != 8 || chart.Part(c, 1) != 6 || chart.Next(c, 2) != 22 || chart.Link(c, 2, 3) != 35 {
					t.Fatalf("%+v: words are elsewhere", c)
				}
			}
		}
	}
}

func TestOwnIndices(t *testing.T) { // P21.4: by what the package itself tells, the versions and the counts included
	for _, c := range allCores() {
		words := chart.Words(c)
		owners := make([]string, words)
		own := func(at int, what string) {
			if at < 0 || at >= words || owners[at] != "" {
				t.Fatalf("%+v: %s is at %d of %d, where %q is", c, what, at, words, owners[min(max(at, 0), words-1)])
			}
			owners[at] = what
		}
		own(chart.Lock(c), "lock")
		own(chart.Shelf(c), "shelf")
		own(chart.Held(c), "held")
		for cpu := range c.Cpus {
			own(chart.Head(c, cpu), "head")
			own(chart.Head(c, cpu)+1, "its version")
			own(chart.Part(c, cpu), "part")
			own(chart.Part(c, cpu)+1, "its version")
		}
		for slab := range c.Slabs {
			own(chart.First(c, slab), "first")
			own(chart.First(c, slab)+1, "counts")
			own(chart.Next(c, slab), "next")
			for obj := range c.Objects {
				own(chart.Link(c, slab, obj), "link")
			}
		}
		free := 0
		for _, owner := range owners {
			if owner == "" {
				free++
			}
		}
		if free != 1+c.Slabs {
			t.Fatalf("%+v: %d words are not used", c, free)
		}
	}
}

func TestKey(t *testing.T) { // P21.1: modulo 2^64, for any number, also where the chart is not valid
	modulus := new(big.Int).Lsh(big.NewInt(1), 64)
	step, _ := new(big.Int).SetString("11400714819323198485", 10)
	slabs := append(ends(), math.MaxInt)
	for slab := -40; slab <= 40; slab++ {
		slabs = append(slabs, slab)
	}
	for _, key := range []uint64{0, 1, 2, 1000003, 1 << 31, 1<<32 - 1, 1<<63 - 1, 1 << 63, 1<<64 - 1, 1<<64 - 2, keyStep, 1<<64 - keyStep, 1<<64 - keyStep - 1, 0x0123456789abcdef} {
		for _, slab := range slabs {
			sum := new(big.Int).Mul(step, big.NewInt(int64(slab)))
			sum.Add(sum, new(big.Int).SetUint64(key)).Mod(sum, modulus)
			for _, c := range []api.Chart{of(1, 1, 1), of(8, 32, 16), {}, of(-1, 0, 99)} {
				c.Key = key
				if got := chart.Key(c, slab); got != sum.Uint64() {
					t.Fatalf("Key(%+v, %d): %d, not %d", c, slab, got, sum)
				}
			}
		}
	}
}

func TestKeyWorkedOut(t *testing.T) { // P21.1
	for _, want := range []struct {
		key  uint64
		slab int
		all  uint64
	}{
		{0, 0, 0}, {7, 0, 7}, {0, 1, 11400714819323198485}, {7, 1, 11400714819323198492}, {0, 2, 4354685564936845354}, {0, -1, 7046029254386353131}, {1, -1, 7046029254386353132},
		{7046029254386353131, 1, 0}, {7046029254386353132, 1, 1}, {0, math.MinInt, 1 << 63}, {0, math.MaxInt, 7046029254386353131 + 1<<63}, {1<<64 - 1, 1, 11400714819323198484},
	} {
		if got := chart.Key(api.Chart{Key: want.key}, want.slab); got != want.all {
			t.Errorf("Key of %d, %d: %d, not %d", want.key, want.slab, got, want.all)
		}
	}
}

// mustBeArg holds a See against ErrArg, beside which there is no core.
func mustBeArg(t *testing.T, w []uint64, c api.Chart) {
	t.Helper()
	if core, e := chart.See(w, c); !sameCore(core, api.Core{}) || e != api.ErrArg {
		t.Fatalf("See of %d words, %+v: %+v, %d, not ErrArg", len(w), c, core, e)
	}
}

func TestSeeOfNoChart(t *testing.T) { // P21.2: whatever the words are
	for _, c := range wrongCharts() {
		mustBeArg(t, nil, c)
		for _, many := range []int{1, 13, 36, 676} {
			mustBeArg(t, make([]uint64, many), c)
			mustBeArg(t, slices.Repeat([]uint64{1}, many), c)
		}
	}
	for _, cpus := range cpuEdges() {
		for _, slabs := range slabEdges() {
			for _, objects := range objectEdges() {
				for _, kept := range [][2]int{{0, 0}, {32, 32}, {-1, 0}, {0, 33}} {
					c := api.Chart{Cpus: cpus, Slabs: slabs, Objects: objects, Min: kept[0], Cap: kept[1]}
					if !isChart(c) {
						mustBeArg(t, make([]uint64, max(0, min(1000, 4*cpus+4+4*slabs+slabs*objects))), c)
					}
				}
			}
		}
	}
}

func TestSeeOfOtherWords(t *testing.T) { // P21.2: none at all, one too few, one too many, those of other charts; also where they are wrong
	for _, c := range []api.Chart{of(1, 1, 1), of(1, 1, 2), of(2, 3, 4), of(8, 32, 16), of(8, 1, 1), of(1, 32, 16)} {
		right := len(laidOut(c.Cpus, c.Slabs, c.Objects))
		mustBeArg(t, nil, c)
		for _, many := range []int{0, 1, right / 2, right - 16, right - 4, right - 2, right - 1, right + 1, right + 2, right + 4, right + 16, 2 * right, 4096} {
			if many >= 0 {
				mustBeArg(t, make([]uint64, many), c)
				mustBeArg(t, slices.Repeat([]uint64{1<<64 - 1}, many), c)
			}
		}
		mustBeArg(t, make([]uint64, right)[:right-1], c) // a word is behind them
		if _, e := chart.See(make([]uint64, right), c); e != api.OK {
			t.Fatalf("See of %d words, %+v: %d", right, c, e)
		}
	}
	for _, c := range allCores() {
		words := make([]uint64, chart.Words(c)+1)
		mustBeArg(t, words, c)
		mustBeArg(t, words[:len(words)-2], c)
	}
}

func TestSeeOfNothing(t *testing.T) { // P21.2: zero words of all cores
	for _, c := range allCores() {
		core, e := chart.See(make([]uint64, chart.Words(c)), c)
		if !sameCore(core, emptyCore(c)) || e != api.OK {
			t.Fatalf("See of zero words, %+v: %+v, %d", c, core, e)
		}
	}
}

func TestSeeWorkedOut(t *testing.T) { // P21.2: words that were written without the model
	c := api.Chart{Cpus: 2, Slabs: 4, Objects: 3, Min: 1, Cap: 2, Key: 7046029254386353131} // so that the key of slab 1 is 0
	key0, key2, key3 := uint64(7046029254386353131), uint64(11400714819323198485), uint64(4354685564936845354)
	w := []uint64{
		64*2 + 2, 5, 64*2 + 4, 99, // slab 1, object 1; turn 5; slab 3, and one more
		64, 1<<64 - 1, 0, 98, // slab 0, no object
		1, 1, 97, 96, // locked; slab 0 is on the shelf; held and the unused word do not matter
		0, 131072 + 65536 + 3*256 + 3, 0, 95,
		1, 131072 + 3*256 + 1, 94, 93, // object 0
		3, 0, 0, 92, // object 2
		2, 131072 + 16*256, 64 + 3, 91, // object 1; behind the slab there is slab 2
		90, 89, 88, // slab 0: no list
		0, 2654435769 ^ 3, 2 * 2654435769, // slab 1: 0 to none; 1 to 2
		87, 86, (key2<<10 | key2>>54) + 2*2654435769 ^ 2, // slab 2: 2 to 1
		(key3) ^ 3, (key3<<5 | key3>>59) + 2654435769 ^ 1, (key3<<10 | key3>>54) + 2*2654435769 ^ 0, // slab 3: 1 to 0 to 2
	}
	w[12+16+7] = (key2<<5 | key2>>59) + 2654435769 // slab 2: 1 to none
	want := api.Core{
		Slots:  []api.Slot{{Slab: 1, List: []int{1, 2}, Turn: 5, Parts: []int{3, 2}}, {Slab: 0, Turn: 1<<64 - 1}},
		Shelf:  []int{0},
		Locked: true,
		Slabs: []api.Slab{
			{Counts: api.Counts{Inuse: 3, Objects: 3, Frozen: true, Live: true}},
			{Counts: api.Counts{Inuse: 1, Objects: 3, Live: true}, First: []int{0}},
			{First: []int{2, 1}},
			{Counts: api.Counts{Objects: 16, Live: true}, First: []int{1, 0, 2}},
		},
	}
	if key := chart.Key(c, 0); key != key0 {
		t.Fatal(key)
	}
	core, e := mustSee(t, w, c)
	if !sameCore(core, want) || e != api.OK {
		t.Fatalf("See: %+v, %d, not %+v", core, e, want)
	}
}

// mustBe holds a See of handwritten words against the core that was written.
func mustBe(t *testing.T, h *hand, want api.Core) {
	t.Helper()
	core, e := mustSee(t, h.w, h.p.c)
	if !sameCore(core, want) || e != api.OK {
		t.Fatalf("See of %+v: %+v, %d, not %+v", h.p.c, core, e, want)
	}
}

func TestHeads(t *testing.T) { // P21.2: each slab, with lists of no, one and all objects, on each processor
	for _, c := range []api.Chart{of(1, 1, 1), of(2, 3, 4), of(8, 32, 16), of(3, 32, 1)} {
		n := noise(1)
		for slab := range c.Slabs {
			for _, l := range [][]int{nil, {0}, {c.Objects - 1}, n.shuffled(c.Objects), n.shuffled(c.Objects)[:c.Objects/2]} {
				core := emptyCore(c)
				core.Slots[slab%c.Cpus] = api.Slot{Slab: slab, List: l, Turn: uint64(slab) << 59}
				mustBe(t, handwritten(c, core), core)
			}
		}
	}
}

func TestTurns(t *testing.T) { // P21.2: any word is a version, and that of the part is not told
	for _, c := range []api.Chart{of(1, 1, 1), of(8, 3, 4)} {
		for _, turn := range []uint64{0, 1, 2, 65, 1 << 32, 1<<63 - 1, 1 << 63, 1<<64 - 1} {
			core := emptyCore(c)
			for cpu := range c.Cpus {
				core.Slots[cpu].Turn = turn + uint64(cpu)
			}
			h := handwritten(c, core)
			for cpu := range c.Cpus {
				h.write(name{"turn of part", cpu, 0}, turn*3+2)
			}
			mustBe(t, h, core)
		}
	}
}

func TestParts(t *testing.T) { // P21.2: of no, one, some and all slabs
	for _, c := range []api.Chart{of(1, 1, 1), of(2, 3, 4), of(8, 32, 16)} {
		n := noise(2)
		for _, l := range [][]int{nil, {0}, {c.Slabs - 1}, n.shuffled(c.Slabs), n.shuffled(c.Slabs), n.shuffled(c.Slabs)[:c.Slabs/2]} {
			for cpu := range c.Cpus {
				core := emptyCore(c)
				core.Slots[cpu].Parts = l
				mustBe(t, handwritten(c, core), core)
			}
		}
	}
}

func TestNumbersOfParts(t *testing.T) { // P21.2: a part is valid whatever number it tells; a list ends where it ends
	c := of(1, 3, 1)
	for many := 1; many <= 63; many++ {
		core := emptyCore(c)
		core.Slots[0].Parts = []int{2, 0}
		h := newHand(c)
		h.core(emptyCore(c))
		h.w[h.p.at[name{"part", 0, 0}]] = partWord(2, many)
		h.w[h.p.at[name{"next", 2, 0}]] = partWord(0, 64-many)
		h.w[h.p.at[name{"next", 0, 0}]] = 0
		mustBe(t, h, core)
	}
}

func TestShelves(t *testing.T) { // P21.2: of no, one, some and all slabs, whatever number is held
	for _, c := range []api.Chart{of(1, 1, 1), of(2, 3, 4), of(8, 32, 16)} {
		n := noise(3)
		for _, l := range [][]int{nil, {0}, {c.Slabs - 1}, n.shuffled(c.Slabs), n.shuffled(c.Slabs), n.shuffled(c.Slabs)[:c.Slabs/2]} {
			for _, held := range []uint64{0, 1, uint64(len(l)), 33, 1<<64 - 1} {
				core := emptyCore(c)
				core.Shelf = l
				h := handwritten(c, core)
				h.write(name{"held", 0, 0}, held)
				mustBe(t, h, core)
			}
		}
	}
}

func TestLocks(t *testing.T) { // P21.2: locked is all but 0
	for _, c := range []api.Chart{of(1, 1, 1), of(8, 32, 16)} {
		for _, lock := range []uint64{0, 1, 2, 1 << 8, 1 << 32, 1 << 63, 1<<64 - 1} {
			h := handwritten(c, emptyCore(c))
			h.w[h.p.at[name{"lock", 0, 0}]] = lock
			core := emptyCore(c)
			core.Locked = lock != 0
			mustBe(t, h, core)
		}
	}
}

func TestCounts(t *testing.T) { // P21.2: all counts, of as many objects as the chart has, or others
	for _, c := range []api.Chart{of(1, 1, 1), of(2, 3, 4), of(8, 32, 16)} {
		for _, counts := range planOf(c).counts {
			for _, slab := range []int{0, c.Slabs / 2, c.Slabs - 1} {
				core := emptyCore(c)
				core.Slabs[slab].Counts = counts
				mustBe(t, handwritten(c, core), core)
			}
		}
	}
}

func TestFirsts(t *testing.T) { // P21.2: lists of no, one, some and all objects, of slabs that are live or not
	for _, c := range []api.Chart{of(1, 1, 1), of(2, 3, 4), of(8, 32, 16)} {
		n := noise(4)
		for slab := range c.Slabs {
			for _, l := range [][]int{nil, {0}, {c.Objects - 1}, n.shuffled(c.Objects), n.shuffled(c.Objects)[:c.Objects/2]} {
				for _, counts := range []api.Counts{{}, {Inuse: 1, Objects: 1, Live: true}} {
					core := emptyCore(c)
					core.Slabs[slab] = api.Slab{Counts: counts, First: l}
					mustBe(t, handwritten(c, core), core)
				}
			}
		}
	}
}

func TestKeys(t *testing.T) { // P21.2: lists of each slab, with keys of all sorts
	for _, key := range []uint64{0, 1, 7, 1000003, 1 << 63, 1<<64 - 1, keyStep, 1<<64 - keyStep, 1<<64 - 31*keyStep&(1<<64-1), 0x0123456789abcdef} {
		c := api.Chart{Cpus: 1, Slabs: 32, Objects: 16, Key: key}
		n := noise(key)
		core := emptyCore(c)
		for slab := range c.Slabs {
			core.Slabs[slab].First = n.shuffled(16)
		}
		core.Slots[0] = api.Slot{Slab: 31, List: core.Slabs[31].First[7:]}
		h := handwritten(c, core)
		mustBe(t, h, core)
		other := c
		other.Key ^= 1 << 40
		if _, e := mustSee(t, h.w, other); e != api.ErrSlab {
			t.Fatalf("See with another key: %d", e)
		}
	}
}

func TestOneSlabInManyLists(t *testing.T) { // P21.2: the parts of two processors, the shelf, and heads may have one slab
	c := of(4, 5, 3)
	core := emptyCore(c)
	core.Slots[0] = api.Slot{Slab: 2, List: []int{1, 0}, Parts: []int{0, 1, 2}}
	core.Slots[1] = api.Slot{Slab: 2, List: []int{0}, Parts: []int{0, 1, 2}}
	core.Slots[2] = api.Slot{Slab: 4, Parts: []int{1, 2}}
	core.Slots[3] = api.Slot{Slab: 2, List: []int{2, 1, 0}, Parts: []int{4, 1, 2}}
	core.Shelf = []int{3, 2} // slab 2 is the last one of all, so that its next is 0
	core.Slabs[2] = api.Slab{Counts: api.Counts{Inuse: 2, Objects: 3, Live: true}, First: []int{1, 0}}
	mustBe(t, handwritten(c, core), core)
	core.Shelf = []int{2}
	mustBe(t, handwritten(c, core), core)
}

// mustBeSlab holds a See against ErrSlab, beside which there is no core.
func mustBeSlab(t *testing.T, w []uint64, c api.Chart, why string) {
	t.Helper()
	core, e := mustSee(t, w, c)
	if !sameCore(core, api.Core{}) || e != api.ErrSlab {
		t.Fatalf("See of %+v, %s: %+v, %d, not ErrSlab", c, why, core, e)
	}
}

// with is handwritten words of which one is another one.
func (h *hand) with(n name, w uint64) []uint64 {
	words := slices.Clone(h.w)
	words[h.p.at[n]] = w
	return words
}

// mustRefuse holds each of some words in one place against ErrSlab.
func mustRefuse(t *testing.T, h *hand, n name, words ...uint64) {
	t.Helper()
	for _, w := range words {
		mustBeSlab(t, h.with(n, w), h.p.c, fmt.Sprint(n, " is ", strconv.FormatUint(w, 10)))
	}
}

// full is a core with lists of all kinds, each of several slabs and objects if there are so many, and nothing in two of them.
func full(c api.Chart) api.Core {
	core := emptyCore(c)
	n := noise(uint64(c.Slabs))
	order := n.shuffled(c.Slabs)
	for i, slab := range order {
		core.Slabs[slab].Counts = api.Counts{Inuse: 1, Objects: c.Objects, Frozen: i%2 == 0, Live: true}
		objects := n.shuffled(c.Objects)
		core.Slabs[slab].First = objects[:(c.Objects+1)/2]
		if i < c.Cpus {
			core.Slots[i] = api.Slot{Slab: slab, List: objects[(c.Objects+1)/2:], Turn: uint64(slab)}
		}
	}
	core.Shelf = order[:c.Slabs/2]
	rest := order[c.Slabs/2:]
	for cpu := range c.Cpus {
		many := (len(rest) + c.Cpus - cpu - 1) / (c.Cpus - cpu)
		core.Slots[cpu].Parts, rest = rest[:many], rest[many:]
	}
	return core
}

// wrongWords are words that are none of any kind.
func wrongWords() []uint64 {
	return []uint64{1 << 18, 1<<18 + 1, 1 << 31, 1 << 32, 1<<32 + 1, 1<<32 + 65, 1 << 63, 1<<63 + 1, 1<<63 + 65, 1<<64 - 1, 1<<64 - 2, 1<<64 - 64, 1<<64 - 65}
}

// fullHands have written full cores of several sizes.
func fullHands() []*hand {
	var l []*hand
	for _, c := range []api.Chart{of(1, 1, 1), of(1, 2, 2), of(2, 3, 4), of(2, 9, 5), of(1, 31, 15), of(3, 32, 16), of(8, 32, 16), of(8, 12, 3)} {
		l = append(l, handwritten(c, full(c)))
	}
	return l
}

func TestFullCores(t *testing.T) { // P21.2
	for _, h := range fullHands() {
		mustBe(t, h, full(h.p.c))
	}
}

func TestWrongHeads(t *testing.T) { // P21.2: of each processor
	for _, h := range fullHands() {
		c := h.p.c
		for cpu := range c.Cpus {
			n := name{"head", cpu, 0}
			mustRefuse(t, h, n, wrongWords()...)
			for obj := range 63 {
				mustRefuse(t, h, n, uint64(obj+1)) // an object, and no slab
			}
			mustRefuse(t, h, n, headWord(c.Slabs, -1), headWord(c.Slabs, 0), headWord(32, -1), headWord(32, 0), headWord(62, 0), headWord(63, 0))
			for slab := range c.Slabs {
				mustRefuse(t, h, n, headWord(slab, c.Objects), headWord(slab, 16), headWord(slab, 62))
			}
		}
	}
}

func TestWrongParts(t *testing.T) { // P21.2: of each processor, and each next that is followed as a part
	for _, h := range fullHands() {
		c := h.p.c
		core := full(c)
		for cpu := range c.Cpus {
			places := []name{{"part", cpu, 0}}
			for _, slab := range core.Slots[cpu].Parts {
				places = append(places, name{"next", slab, 0})
			}
			for i, n := range places {
				mustRefuse(t, h, n, wrongWords()...)
				mustRefuse(t, h, n, 1, 2, 32, 33, 63) // slabs, and none of them
				mustRefuse(t, h, n, 64, 128, 63*64)   // no slab
				mustRefuse(t, h, n, partWord(c.Slabs, 1), partWord(c.Slabs, 2), partWord(c.Slabs, 63), partWord(32, 1), partWord(62, 1), partWord(0, 64), partWord(0, 65), partWord(0, 128))
				for _, slab := range core.Slots[cpu].Parts[:i] { // itself, and those ahead of it
					mustRefuse(t, h, n, partWord(slab, 1), partWord(slab, 2), partWord(slab, 63))
				}
			}
		}
	}
}

func TestWrongShelves(t *testing.T) { // P21.2: the shelf, and each next that is followed on it
	for _, h := range fullHands() {
		c := h.p.c
		core := full(c)
		places := []name{{"shelf", 0, 0}}
		for _, slab := range core.Shelf {
			places = append(places, name{"next", slab, 0})
		}
		for i, n := range places {
			mustRefuse(t, h, n, wrongWords()...)
			mustRefuse(t, h, n, uint64(c.Slabs+1), uint64(c.Slabs+2), 33, 34, 64, 65, 66, 129, 256, 257, 1<<16, 1<<16+1)
			for _, slab := range core.Shelf[:i] {
				mustRefuse(t, h, n, uint64(slab+1))
			}
		}
	}
}

func TestWrongCounts(t *testing.T) { // P21.2: of each slab
	for _, h := range fullHands() {
		for slab := range h.p.c.Slabs {
			n := name{"counts", slab, 0}
			mustRefuse(t, h, n, wrongWords()...)
			mustRefuse(t, h, n, 1, 2, 16, 255, 256, 257, 16*256, 65536, 65536+256, 65536+257, // not live
				131072, 131072+65536, 131072+1, // no objects
				131072+256+2, 131072+65536+256+2, 131072+16*256+17, 131072+15*256+16, 131072+256+255, // more in use than there are
				131072+17*256, 131072+17*256+1, 131072+65536+17*256+17, 131072+255*256, // more than a slab has
				262144+131072+256, 262144+131072+65536+257)
		}
	}
}

func TestWrongFirsts(t *testing.T) { // P21.2: of each slab
	for _, h := range fullHands() {
		c := h.p.c
		for slab := range c.Slabs {
			n := name{"first", slab, 0}
			mustRefuse(t, h, n, wrongWords()...)
			mustRefuse(t, h, n, uint64(c.Objects+1), uint64(c.Objects+2), 17, 18, 32, 64, 65, 256, 257, 65536, 1<<32+uint64(c.Objects))
		}
	}
}

// mustRefuseLinks holds wrong links of each object of a list against ErrSlab.
func mustRefuseLinks(t *testing.T, h *hand, slab int, list []int) {
	t.Helper()
	key := keyOf(h.p.c.Key, slab)
	for i, obj := range list {
		n := name{"link", slab, obj}
		none := linkOf(key, obj, -1)
		mustRefuse(t, h, n, linkOf(key, obj, h.p.c.Objects), linkOf(key, obj, 16), none^31, none^32, none^1<<63, none^(1<<64-1)) // an object that there is not
		mustRefuse(t, h, n, linkOf(keyOf(key, 1), obj, -1), linkOf(^key, obj, -1))                                               // of another key
		for _, other := range list[:i+1] {                                                                                       // itself, and those ahead of it
			mustRefuse(t, h, n, linkOf(key, obj, other))
		}
	}
}

func TestWrongLinks(t *testing.T) { // P21.2: of each object in a list of a head, and in one of a slab
	for _, h := range fullHands() {
		core := full(h.p.c)
		for _, s := range core.Slots {
			mustRefuseLinks(t, h, s.Slab, s.List)
		}
		for slab, s := range core.Slabs {
			mustRefuseLinks(t, h, slab, s.First)
		}
	}
}

func TestCirclesWorkedOut(t *testing.T) { // P21.2: one slab refers to itself, two to each other
	c := api.Chart{Cpus: 1, Slabs: 2, Objects: 2}
	for _, w := range [][]uint64{
		{0, 0, 65, 0, 0, 0, 0, 0, 0, 0, 65, 0, 0, 0, 0, 0, 0, 0, 0, 0},    // slab 0 is kept, and behind it itself
		{0, 0, 65, 0, 0, 0, 0, 0, 0, 0, 66, 0, 0, 0, 65, 0, 0, 0, 0, 0},   // slab 1 behind slab 0, and the other way round
		{0, 0, 129, 0, 0, 0, 0, 0, 0, 0, 66, 0, 0, 0, 129, 0, 0, 0, 0, 0}, // with numbers that may be
		{0, 0, 0, 0, 0, 1, 0, 0, 0, 0, 1, 0, 0, 0, 0, 0, 0, 0, 0, 0},      // on the shelf
		{0, 0, 0, 0, 0, 2, 0, 0, 0, 0, 2, 0, 0, 0, 1, 0, 0, 0, 0, 0},
		{0, 0, 0, 0, 0, 0, 0, 0, 1, 0, 0, 0, 0, 0, 0, 0, 1, 0, 0, 0}, // object 0 of slab 0
		{65, 0, 0, 0, 0, 0, 0, 0, 0, 0, 0, 0, 0, 0, 0, 0, 1, 0, 0, 0},
		{65, 0, 0, 0, 0, 0, 0, 0, 0, 0, 0, 0, 0, 0, 0, 0, 2, 2654435769 ^ 1, 0, 0},
	} {
		mustBeSlab(t, w, c, fmt.Sprint(w))
	}
}

func TestWorkedOutWithoutCircles(t *testing.T) { // P21.2: those of before, with an end
	c := api.Chart{Cpus: 1, Slabs: 2, Objects: 2}
	for _, w := range [][]uint64{
		{0, 0, 65, 0, 0, 0, 0, 0, 0, 0, 66, 0, 0, 0, 0, 0, 0, 0, 0, 0},
		{0, 0, 0, 0, 0, 2, 0, 0, 0, 0, 0, 0, 0, 0, 1, 0, 0, 0, 0, 0},
		{65, 0, 0, 0, 0, 0, 0, 0, 0, 0, 0, 0, 0, 0, 0, 0, 2, 2654435769, 0, 0},
	} {
		if _, e := mustSee(t, w, c); e != api.OK {
			t.Errorf("See of %d: %d", w, e)
		}
	}
}

// everyWord are words to put into each place: small ones, those of each kind, and wrong ones.
func everyWord(p *plan) []uint64 {
	l := wrongWords()
	for w := range uint64(300) {
		l = append(l, w)
	}
	for slab := range p.c.Slabs {
		for obj := range p.c.Objects {
			for next := range 18 {
				l = append(l, linkOf(keyOf(p.c.Key, slab), obj, next-1))
			}
		}
	}
	for w := range p.counts {
		l = append(l, w, w^1<<16, w^1<<17)
	}
	return l
}

func TestEveryWordEverywhere(t *testing.T) { // P21.2, P21.5: words of all kinds in each place
	seen := map[api.Errno]int{}
	for _, h := range fullHands()[:3] {
		words := everyWord(h.p)
		slices.Sort(words)
		for _, n := range h.p.names {
			for _, w := range slices.Compact(words) {
				_, e := mustSee(t, h.with(n, w), h.p.c)
				seen[e]++
			}
		}
	}
	if len(seen) != 2 || seen[api.OK] < 10000 || seen[api.ErrSlab] < 10000 {
		t.Error("errors:", seen)
	}
}

// eachRow calls a function with each row of one of each of some lists.
func eachRow(of [][]uint64, call func(row []uint64)) {
	row := make([]uint64, len(of))
	var fill func(at int)
	fill = func(at int) {
		if at == len(of) {
			call(row)
			return
		}
		for _, w := range of[at] {
			row[at] = w
			fill(at + 1)
		}
	}
	fill(0)
}

// mustSeeEach holds a See with each row of words in some places against the model, and counts the errors.
func mustSeeEach(t *testing.T, h *hand, names []name, places [][]uint64, seen map[api.Errno]int) {
	t.Helper()
	eachRow(places, func(row []uint64) {
		for i, w := range row {
			h.w[h.p.at[names[i]]] = w
		}
		_, e := mustSee(t, h.w, h.p.c)
		seen[e]++
	})
}

func TestEveryListOfSlabs(t *testing.T) { // P21.2: all ways in which a part, the shelf and up to three nexts may refer to slabs
	seen := map[api.Errno]int{}
	for slabs := 1; slabs <= 3; slabs++ {
		c := api.Chart{Cpus: 1, Slabs: slabs, Objects: 1, Key: 5}
		var shelves, parts []uint64
		for slab := range slabs + 1 {
			shelves, parts = append(shelves, uint64(slab)), append(parts, partWord(slab, 1+slab))
		}
		shelves, parts = append(shelves, uint64(slabs+1)), append(parts, 0)
		places := [][]uint64{parts, shelves}
		names := []name{{"part", 0, 0}, {"shelf", 0, 0}}
		for slab := range slabs {
			places = append(places, slices.Concat(shelves, parts[:slabs+1]))
			names = append(names, name{"next", slab, 0})
		}
		h := handwritten(c, emptyCore(c))
		mustSeeEach(t, h, names, places, seen)
	}
	if len(seen) != 2 || seen[api.OK] < 1000 || seen[api.ErrSlab] < 1000 {
		t.Error("errors:", seen)
	}
}

func TestEveryListOfObjects(t *testing.T) { // P21.2: all ways in which a head, a first and up to three links may refer to objects
	seen := map[api.Errno]int{}
	for objects := 1; objects <= 3; objects++ {
		c := api.Chart{Cpus: 1, Slabs: 2, Objects: objects, Key: 5}
		heads, firsts := []uint64{0, headWord(0, -1), headWord(2, 0)}, []uint64{0}
		for obj := range objects + 1 {
			heads, firsts = append(heads, headWord(1, obj)), append(firsts, uint64(obj+1))
		}
		places := [][]uint64{heads, firsts}
		names := []name{{"head", 0, 0}, {"first", 1, 0}}
		for obj := range objects {
			var links []uint64
			for next := -1; next <= objects; next++ {
				links = append(links, linkOf(keyOf(5, 1), obj, next))
			}
			places = append(places, append(links, 77))
			names = append(names, name{"link", 1, obj})
		}
		h := handwritten(c, emptyCore(c))
		mustSeeEach(t, h, names, places, seen)
	}
	if len(seen) != 2 || seen[api.OK] < 500 || seen[api.ErrSlab] < 1000 {
		t.Error("errors:", seen)
	}
}

// someChart is a chart without a pattern.
func someChart(n *noise) api.Chart {
	return api.Chart{Cpus: 1 + n.next(8), Slabs: 1 + n.next(32), Objects: 1 + n.next(16), Min: n.next(33), Cap: n.next(33), Key: uint64(n.next(2)) << n.next(64)}
}

func TestDealtCores(t *testing.T) { // P21.2: cores of all sizes, and what becomes of them if a word is another one
	n := noise(21)
	seen := map[api.Errno]int{}
	for range 400 {
		c := someChart(&n)
		delete(plans, c)
		core := dealt(&n, c)
		h := handwritten(c, core)
		mustBe(t, h, core)
		for range 8 {
			at := n.next(len(h.w))
			was := h.w[at]
			h.w[at] = []uint64{0, n.word(), was + 1, was - 1, was ^ 1<<n.next(64), h.w[n.next(len(h.w))], uint64(n.next(70)), uint64(n.next(4200))}[n.next(8)]
			_, e := mustSee(t, h.w, c)
			seen[e]++
			h.w[at] = was
		}
		delete(plans, c)
	}
	if len(seen) != 2 || seen[api.OK] < 500 || seen[api.ErrSlab] < 300 {
		t.Error("errors:", seen)
	}
}

// odd are words that a place that does not matter may have.
func odd() []uint64 {
	return append(wrongWords(), 0, 1, 2, 17, 33, 64, 65, 66, 67, 129, 130, 131328, 199171)
}

func TestWhatDoesNotMatter(t *testing.T) { // P21.5: each word that is not mentioned, alone and together with all others: by what the package itself tells
	n := noise(8)
	var changed int
	for _, c := range []api.Chart{of(1, 1, 1), of(2, 3, 4), of(2, 9, 5), of(8, 32, 16)} {
		for _, core := range []api.Core{emptyCore(c), full(c), dealt(&n, c), dealt(&n, c)} {
			h := handwritten(c, core)
			want, e := chart.See(h.w, c)
			if e != api.OK || !sameCore(want, core) {
				t.Fatal(c, e)
			}
			for _, all := range odd() {
				words := slices.Clone(h.w)
				for at := range words {
					if h.written[at] {
						continue
					}
					changed++
					words[at] = all
					alone := slices.Clone(h.w)
					alone[at] = all
					for _, w := range [][]uint64{words, alone} {
						if got, e := chart.See(w, c); e != api.OK || !sameCore(got, want) {
							t.Fatalf("See of %+v where %+v is %d: %+v, %d, not %+v", c, h.p.names[at], all, got, e, want)
						}
					}
				}
			}
		}
	}
	if changed < 40000 {
		t.Error("changed:", changed)
	}
}

func TestWhatMatters(t *testing.T) { // P21.5 the other way round: each word that is mentioned changes something
	n := noise(9)
	for _, c := range []api.Chart{of(1, 1, 1), of(2, 3, 4), of(8, 32, 16)} {
		for _, core := range []api.Core{emptyCore(c), full(c), dealt(&n, c)} {
			h := handwritten(c, core)
			for at := range h.written {
				w := slices.Clone(h.w)
				w[at] ^= 1 << 63 // a lock that is not 0 remains one
				got, _ := chart.See(w, c)
				if isLock := h.p.names[at].what == "lock"; sameCore(got, core) != (isLock && core.Locked) {
					t.Fatalf("See of %+v where %+v is %d: %+v", c, h.p.names[at], w[at], got)
				}
			}
		}
	}
}

func TestResultsAreNewMemory(t *testing.T) { // P21.3: what is written into a result is in no later one
	for _, h := range fullHands() {
		first, e := chart.See(h.w, h.p.c)
		if e != api.OK {
			t.Fatal(e)
		}
		second, _ := chart.See(h.w, h.p.c)
		was := cloned(second)
		mustBeApart(t, first)
		third, e := chart.See(h.w, h.p.c)
		if !sameCore(second, was) || !sameCore(third, was) || e != api.OK {
			t.Fatalf("See: %+v, then %+v, not %+v", second, third, was)
		}
	}
}

func TestWordsAreNotKept(t *testing.T) { // P21.3: nothing comes of what is written into the words behind a call
	c := of(2, 3, 4)
	w := slices.Clone(handwritten(c, full(c)).w)
	if core, e := chart.See(w, c); !sameCore(core, full(c)) || e != api.OK {
		t.Fatal(core, e)
	}
	copy(w, handwritten(c, emptyCore(c)).w)
	if core, e := chart.See(w, c); !sameCore(core, emptyCore(c)) || e != api.OK {
		t.Fatal(core, e)
	}
	w[0] = 1
	if core, e := chart.See(w, c); !sameCore(core, api.Core{}) || e != api.ErrSlab {
		t.Fatal(core, e)
	}
}

// call is arguments of all functions.
type call struct {
	c         api.Chart
	i, second int
	w         []uint64
}

// answers is what calls return.
type answers struct {
	check, see api.Errno
	indices    [9]int
	key        uint64
	core       string
}

// ask makes all calls.
func (c call) ask() answers {
	core, e := chart.See(c.w, c.c)
	return answers{chart.Check(c.c), e, [9]int{chart.Words(c.c), chart.Head(c.c, c.i), chart.Part(c.c, c.i), chart.Lock(c.c), chart.Shelf(c.c), chart.Held(c.c), chart.First(c.c, c.i), chart.Next(c.c, c.i), chart.Link(c.c, c.i, c.second)}, chart.Key(c.c, c.i), fmt.Sprint(core)}
}

// manyCalls are calls with valid charts and others, and words of all sorts.
func manyCalls() []call {
	n := noise(11)
	var l []call
	for _, h := range fullHands() {
		l = append(l, call{h.p.c, n.next(12) - 2, n.next(12) - 2, h.w})
		for range 10 {
			w := slices.Clone(h.w)
			w[n.next(len(w))] = n.word()
			l = append(l, call{h.p.c, n.next(12) - 2, n.next(12) - 2, w}, call{h.p.c, n.next(40) - 2, n.next(20) - 2, w[1:]})
		}
	}
	for i, c := range wrongCharts() {
		l = append(l, call{c, i % 9, i % 7, make([]uint64, i%40)})
	}
	return l
}

func TestSameAnswers(t *testing.T) { // R2: forwards, backwards, behind other calls, and from several goroutines
	calls := manyCalls()
	first := make([]answers, len(calls))
	for at, c := range calls {
		first[at] = c.ask()
	}
	for at, c := range slices.Backward(calls) {
		if got := c.ask(); got != first[at] {
			t.Fatalf("%+v: %+v, not %+v", c, got, first[at])
		}
		calls[(at*7+3)%len(calls)].ask()
		if got := c.ask(); got != first[at] {
			t.Fatalf("%+v: %+v, not %+v", c, got, first[at])
		}
	}
	var others sync.WaitGroup
	for range 4 {
		others.Go(func() {
			for at, c := range calls {
				if got := c.ask(); got != first[at] {
					t.Errorf("%+v: %+v, not %+v", c, got, first[at])
					return
				}
			}
		})
	}
	others.Wait()
}

// left is the panic that leaves calls.
func left(calls func()) (panicked any) {
	defer func() { panicked = recover() }()
	calls()
	return nil
}

func TestNoPanicLeaves(t *testing.T) { // R1: edges in all places, and words of all sorts
	numbers := append(ends(), math.MaxInt, -1, 0, 1, 7, 8, 15, 16, 31, 32, 33)
	charts := append(wrongCharts(), of(1, 1, 1), of(2, 3, 4), of(8, 32, 16))
	for _, c := range charts {
		for at, i := range numbers {
			asked := call{c, i, numbers[(at*5+2)%len(numbers)], make([]uint64, at)}
			if p := left(func() { asked.ask() }); p != nil {
				t.Fatalf("%+v: panic %v", asked, p)
			}
		}
	}
	n := noise(12)
	for range 2000 {
		c := someChart(&n)
		w := make([]uint64, chart.Words(c))
		for at := range w {
			w[at] = n.word() >> n.next(64) & (1<<n.next(64) - 1)
		}
		if p := left(func() { chart.See(w, c) }); p != nil {
			t.Fatalf("See(%d, %+v): panic %v", w, c, p)
		}
	}
}

func TestEndsWithWordsOfOneKind(t *testing.T) { // R1: the same word everywhere
	for _, c := range []api.Chart{of(1, 1, 1), of(2, 3, 4), of(8, 32, 16)} {
		for w := range uint64(200) {
			mustSee(t, slices.Repeat([]uint64{w}, chart.Words(c)), c)
		}
	}
}

// store puts a word into a memory.
func store(t *testing.T, m *mem.Mem, at int, w uint64, e api.Errno) {
	t.Helper()
	if e != api.OK {
		t.Fatal(e)
	}
	if e := m.Store(at, w); e != api.OK {
		t.Fatalf("Store at %d: %d", at, e)
	}
}

func TestCoresInAMemory(t *testing.T) { // with the layers below: each core has room in a memory, and what they encode is seen there
	for _, c := range allCores() {
		m, e := mem.New(chart.Words(c))
		if e != api.OK {
			t.Fatalf("%+v: a memory of its words: %d", c, e)
		}
		slab, cpu := c.Slabs-1, c.Cpus-1
		links, e := link.Fresh(c.Objects, chart.Key(c, slab))
		if e != api.OK {
			t.Fatal(e)
		}
		for obj, w := range links {
			store(t, m, chart.Link(c, slab, obj), w, api.OK)
		}
		counts, e := count.Pack(api.Counts{Inuse: c.Objects, Objects: c.Objects, Frozen: true, Live: true})
		store(t, m, chart.First(c, slab)+1, counts, e)
		head, e := count.Head(slab, 0)
		store(t, m, chart.Head(c, cpu), head, e)
		store(t, m, chart.Head(c, cpu)+1, 9, api.OK)
		part, e := count.Part(0, 1)
		store(t, m, chart.Part(c, cpu), part, e)
		store(t, m, chart.Shelf(c), 1, api.OK)
		store(t, m, chart.Held(c), 1, api.OK)
		store(t, m, chart.Lock(c), 1, api.OK)
		want := emptyCore(c)
		want.Slots[cpu] = api.Slot{Slab: slab, Turn: 9, Parts: []int{0}}
		for obj := range c.Objects {
			want.Slots[cpu].List = append(want.Slots[cpu].List, obj)
		}
		want.Shelf, want.Locked = []int{0}, true
		want.Slabs[slab].Counts = api.Counts{Inuse: c.Objects, Objects: c.Objects, Frozen: true, Live: true}
		if core, e := chart.See(m.Words(), c); !sameCore(core, want) || e != api.OK {
			t.Fatalf("%+v: %+v, %d, not %+v", c, core, e, want)
		}
	}
}
