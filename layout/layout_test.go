package layout_test

import (
	"math"
	"slices"
	"strings"
	"sync"
	"testing"

	"wainscot/api"
	"wainscot/layout"
	"wainscot/owner"
	"wainscot/zone"
)

// The tests hold the package against the chapter said a second time, in another way: the model draws slabs, a letter for each byte, and reads the layout and the starts of its objects off the drawing. The properties P15.3 and P15.4 are held against what the package itself tells, without the model.

// Letters of a drawing: the first byte of an object is "O", its other ones "o", the 8 bytes on each side of a guarded one "g", what else belongs to a step "-", what belongs to none "w".

// asked is what Of is asked for.
type asked struct {
	size, align int
	guarded     bool
}

// drawStep is one step.
func drawStep(q asked) string {
	ahead, behind := "", ""
	if q.guarded {
		ahead, behind = strings.Repeat("g", 8), strings.Repeat("g", 8)
	}
	for len(ahead)%q.align != 0 {
		ahead = "-" + ahead
	}
	step := ahead + "O" + strings.Repeat("o", q.size-1) + behind
	for len(step)%8 != 0 || len(step)%q.align != 0 {
		step += "-"
	}
	return step
}

// drawSlab is a slab of so many bytes, with as many steps as fit.
func drawSlab(step string, bytes int) string {
	var b strings.Builder
	for range 16 {
		if b.Len()+len(step) <= bytes {
			b.WriteString(step)
		}
	}
	for b.Len() < bytes {
		b.WriteByte('w')
	}
	return b.String()
}

// slabs are how many bytes a slab has, of each order.
func slabs() []int { return []int{256, 512, 1024, 2048} }

// drawn is the slab that a step gets; nothing if there is none for it.
func drawn(step string) string {
	var l []string
	for _, bytes := range slabs() {
		if slab := drawSlab(step, bytes); strings.Contains(slab, "O") {
			l = append(l, slab)
		}
	}
	if len(l) == 0 {
		return ""
	}
	return l[max(0, slices.IndexFunc(l, func(slab string) bool { return 8*strings.Count(slab, "w") <= len(slab) }))]
}

// read is the layout that a drawing shows.
func read(q asked, step, slab string) api.Layout {
	return api.Layout{
		Size:    q.size,
		Align:   q.align,
		Step:    len(step),
		Offset:  strings.Index(step, "O"),
		Order:   slices.Index(slabs(), len(slab)),
		Objects: strings.Count(slab, "O"),
		Waste:   strings.Count(slab, "w"),
	}
}

// starts are the bytes of a drawing at which its objects start.
func starts(slab string) []int {
	var l []int
	for at, letter := range slab {
		if letter == 'O' {
			l = append(l, at)
		}
	}
	return l
}

// model is all layouts that there are.
type model struct {
	of    map[asked]api.Layout
	valid map[api.Layout][]int // and where their objects start
}

// chapter is the model.
var chapter = sync.OnceValue(func() model {
	m := model{map[asked]api.Layout{}, map[api.Layout][]int{}}
	for q := range all {
		step := drawStep(q)
		if slab := drawn(step); slab != "" {
			l := read(q, step, slab)
			m.of[q] = l
			m.valid[l] = starts(slab)
		}
	}
	return m
})

// aligns are the valid alignments.
func aligns() []int { return []int{1, 2, 4, 8, 16, 32, 64} }

// all gives everything that may be asked for: each size with each alignment, guarded and not.
func all(yield func(asked) bool) {
	for size := 1; size <= 2048; size++ {
		for _, align := range aligns() {
			if !yield(asked{size, align, false}) || !yield(asked{size, align, true}) {
				return
			}
		}
	}
}

// want is what Of has to return.
func want(q asked) (api.Layout, api.Errno) {
	if q.size < 1 || q.size > 2048 || !slices.Contains(aligns(), q.align) {
		return api.Layout{}, api.ErrArg
	}
	l, is := chapter().of[q]
	if !is {
		return api.Layout{}, api.ErrSlab
	}
	return l, api.OK
}

// mustOf holds an Of against the model.
func mustOf(t *testing.T, q asked) (api.Layout, api.Errno) {
	t.Helper()
	l, e := layout.Of(q.size, q.align, q.guarded)
	if wantL, wantE := want(q); l != wantL || e != wantE {
		t.Fatalf("Of(%d, %d, %v): %+v, %d, not %+v, %d", q.size, q.align, q.guarded, l, e, wantL, wantE)
	}
	return l, e
}

// mustAt holds an At against the model.
func mustAt(t *testing.T, l api.Layout, i int) (int, api.Errno) {
	t.Helper()
	at, e := layout.At(l, i)
	wantAt, wantE := 0, api.ErrRange
	starts, is := chapter().valid[l]
	switch {
	case !is:
		wantE = api.ErrArg
	case i >= 0 && i < len(starts):
		wantAt, wantE = starts[i], api.OK
	}
	if at != wantAt || e != wantE {
		t.Fatalf("At(%+v, %d): %d, %d, not %d, %d", l, i, at, e, wantAt, wantE)
	}
	return at, e
}

// mustIndex holds an Index against the model.
func mustIndex(t *testing.T, l api.Layout, at int) (int, bool) {
	t.Helper()
	i, is := layout.Index(l, at)
	wantI, wantIs := 0, false
	if found := slices.Index(chapter().valid[l], at); found >= 0 {
		wantI, wantIs = found, true
	}
	if i != wantI || is != wantIs {
		t.Fatalf("Index(%+v, %d): %d, %v, not %d, %v", l, at, i, is, wantI, wantIs)
	}
	return i, is
}

// made is a layout that there is.
func made(t *testing.T, size, align int, guarded bool) api.Layout {
	t.Helper()
	l, e := mustOf(t, asked{size, align, guarded})
	if e != api.OK {
		t.Fatalf("Of(%d, %d, %v): %d", size, align, guarded, e)
	}
	return l
}

// sizes are the sizes at the edges: of what is valid, of steps, of slabs, and of what a guarded object may have; and some that no object has.
func sizes() []int {
	return slices.Concat(noSizes(), []int{
		1, 2, 7, 8, 9, 15, 16, 17, 24, 25, 32, 33, 49, 56, 57, 64, 65, 72, 73, 100, 104, 105, 112, 113, 120, 121, 128, 129, 152, 216, 217, 224, 225, 228, 229, 232, 233, 240, 241, 248, 249, 255, 256, 257,
		440, 441, 448, 449, 496, 497, 504, 505, 511, 512, 513, 888, 889, 896, 897, 1000, 1008, 1009, 1023, 1024, 1025, 1784, 1785, 1792, 1793,
		1975, 1976, 1977, 1983, 1984, 1985, 2007, 2008, 2009, 2023, 2024, 2025, 2031, 2032, 2033, 2039, 2040, 2041, 2047, 2048})
}

// noSizes are numbers of bytes that no object has.
func noSizes() []int {
	return []int{math.MinInt, math.MinInt + 1, math.MinInt32, -2048, -256, -8, -2, -1, 0, 2049, 2050, 2056, 4096, math.MaxInt32, 1 << 32, 1<<32 + 8, math.MaxInt - 64, math.MaxInt - 8, math.MaxInt - 1, math.MaxInt}
}

// noAligns are numbers that are no alignment.
func noAligns() []int {
	return []int{math.MinInt, math.MinInt + 1, math.MinInt32, -64, -8, -4, -2, -1, 0, 3, 5, 6, 7, 9, 10, 12, 14, 15, 17, 20, 24, 31, 33, 40, 48, 63, 65, 66, 96, 127, 128, 256, 512, 1024, 2048, math.MaxInt32, 1 << 32, 1<<32 + 8, 1 << 62, math.MaxInt - 1, math.MaxInt}
}

// outside are numbers of objects, and of bytes, that no slab has.
func outside() []int {
	return []int{math.MinInt, math.MinInt + 1, math.MinInt + 8, math.MinInt32, -2048, -256, -64, -16, -8, -2, -1, 2048, 2049, 1 << 32, 1<<32 + 1, 1<<32 + 8, math.MaxInt - 8, math.MaxInt - 1, math.MaxInt}
}

// edges gives all layouts of the sizes at the edges.
func edges(yield func(asked, api.Layout) bool) {
	for _, size := range sizes() {
		for _, align := range aligns() {
			for _, guarded := range []bool{false, true} {
				q := asked{size, align, guarded}
				l, is := chapter().of[q]
				if is && !yield(q, l) {
					return
				}
			}
		}
	}
}

// noise gives numbers without a pattern, the same ones each time.
type noise uint64

func (n *noise) next(below int) int {
	*n = *n*6364136223846793005 + 1442695040888963407
	return int(uint64(*n)>>33) % below
}

func TestExamples(t *testing.T) { // of the chapter
	for _, c := range []struct {
		size, align int
		guarded     bool
		want        api.Layout
		e           api.Errno
	}{
		{24, 8, false, api.Layout{Size: 24, Align: 8, Step: 24, Order: 0, Objects: 10, Waste: 16}, api.OK},
		{100, 8, false, api.Layout{Size: 100, Align: 8, Step: 104, Order: 2, Objects: 9, Waste: 88}, api.OK},
		{8, 1, true, api.Layout{Size: 8, Align: 1, Step: 24, Offset: 8, Order: 0, Objects: 10, Waste: 16}, api.OK},
		{2048, 1, true, api.Layout{}, api.ErrSlab},
		{0, 1, false, api.Layout{}, api.ErrArg},
		{8, 3, false, api.Layout{}, api.ErrArg},
	} {
		if l, e := layout.Of(c.size, c.align, c.guarded); l != c.want || e != c.e {
			t.Errorf("Of(%d, %d, %v): %+v, %d, not %+v, %d", c.size, c.align, c.guarded, l, e, c.want, c.e)
		}
	}
}

// worked is a layout that was worked out by hand.
type worked struct {
	size, align                         int
	guarded                             bool
	step, offset, order, objects, waste int
}

// is holds Of against it.
func (c worked) is(t *testing.T) {
	t.Helper()
	l, e := layout.Of(c.size, c.align, c.guarded)
	want := api.Layout{Size: c.size, Align: c.align, Step: c.step, Offset: c.offset, Order: c.order, Objects: c.objects, Waste: c.waste}
	if l != want || e != api.OK {
		t.Errorf("Of(%d, %d, %v): %+v, %d, not %+v", c.size, c.align, c.guarded, l, e, want)
	}
}

func TestWorkedOut(t *testing.T) { // P15.1
	for _, c := range []worked{
		{1, 1, false, 8, 0, 0, 16, 128}, // at most 16 objects, though 32 steps fit
		{8, 8, false, 8, 0, 0, 16, 128},
		{7, 4, false, 8, 0, 0, 16, 128},
		{9, 1, false, 16, 0, 0, 16, 0},
		{9, 2, false, 16, 0, 0, 16, 0},
		{1, 16, false, 16, 0, 0, 16, 0},
		{17, 16, false, 32, 0, 0, 8, 0},
		{1, 32, false, 32, 0, 0, 8, 0},
		{1, 64, false, 64, 0, 0, 4, 0},
		{65, 64, false, 128, 0, 0, 2, 0},
		{40, 4, false, 40, 0, 0, 6, 16},
		{113, 1, false, 120, 0, 0, 2, 16},
		{256, 64, false, 256, 0, 0, 1, 0},
		{257, 1, false, 264, 0, 3, 7, 200},  // 1 of 512, and 3 of 1024, waste 248 and 232
		{257, 16, false, 272, 0, 3, 7, 144}, // 240 of 512, 208 of 1024
		{257, 64, false, 320, 0, 2, 3, 64},
		{512, 1, false, 512, 0, 1, 1, 0},
		{1024, 1, false, 1024, 0, 2, 1, 0},
		{2041, 1, false, 2048, 0, 3, 1, 0},
		{2048, 64, false, 2048, 0, 3, 1, 0},
		{1, 1, true, 24, 8, 0, 10, 16},
		{8, 8, true, 24, 8, 0, 10, 16},
		{9, 8, true, 32, 8, 0, 8, 0},
		{1, 16, true, 32, 16, 0, 8, 0},
		{8, 16, true, 32, 16, 0, 8, 0},
		{9, 16, true, 48, 16, 0, 5, 16},
		{1, 32, true, 64, 32, 0, 4, 0},
		{24, 32, true, 64, 32, 0, 4, 0},
		{25, 32, true, 96, 32, 1, 5, 32}, // 2 of 256 waste 64
		{1, 64, true, 128, 64, 0, 2, 0},
		{57, 64, true, 192, 64, 2, 5, 64}, // 64 of 256, 128 of 512
		{100, 8, true, 120, 8, 0, 2, 16},
		{240, 1, true, 256, 8, 0, 1, 0},
		{2032, 8, true, 2048, 8, 3, 1, 0},
	} {
		c.is(t)
	}
}

func TestWaste(t *testing.T) { // P15.1: exactly an eighth of the bytes, the next size that wastes more, and one that wastes less
	for _, c := range []worked{
		{56, 8, false, 56, 0, 0, 4, 32},
		{57, 8, false, 64, 0, 0, 4, 0},
		{65, 8, false, 72, 0, 1, 7, 8}, // 40 of 256
		{112, 8, false, 112, 0, 0, 2, 32},
		{113, 8, false, 120, 0, 0, 2, 16},
		{129, 8, false, 136, 0, 2, 7, 72}, // 120 of 256, 104 of 512
		{104, 8, false, 104, 0, 2, 9, 88}, // 48 of 256, 96 of 512
		{105, 8, false, 112, 0, 0, 2, 32},
		{216, 8, false, 216, 0, 3, 9, 104}, // 40 of 256, 80 of 512, 160 of 1024
		{217, 8, false, 224, 0, 0, 1, 32},
		{224, 8, false, 224, 0, 0, 1, 32},
		{225, 8, false, 232, 0, 0, 1, 24},
		{448, 8, false, 448, 0, 1, 1, 64},
		{449, 8, false, 456, 0, 1, 1, 56},
		{896, 8, false, 896, 0, 2, 1, 128},
		{897, 8, false, 904, 0, 2, 1, 120},
		{1792, 8, false, 1792, 0, 3, 1, 256},
		{1793, 8, false, 1800, 0, 3, 1, 248},
		{40, 8, true, 56, 8, 0, 4, 32},
		{41, 8, true, 64, 8, 0, 4, 0},
		{49, 8, true, 72, 8, 1, 7, 8},
		{432, 8, true, 448, 8, 1, 1, 64},
		{433, 8, true, 456, 8, 1, 1, 56},
	} {
		c.is(t)
	}
}

func TestNoOrderWastesLittle(t *testing.T) { // P15.1: the least order that has an object is taken
	for _, c := range []worked{
		{8, 1, false, 8, 0, 0, 16, 128},
		{289, 8, false, 296, 0, 1, 1, 216}, // 136 of 1024, 272 of 2048
		{296, 8, false, 296, 0, 1, 1, 216},
		{344, 8, false, 344, 0, 1, 1, 168}, // 336 of 1024, 328 of 2048
		{433, 8, false, 440, 0, 1, 1, 72},  // 144 of 1024, 288 of 2048
		{440, 8, false, 440, 0, 1, 1, 72},
		{513, 8, false, 520, 0, 2, 1, 504}, // 488 of 2048, which is less
		{513, 64, false, 576, 0, 2, 1, 448},
		{881, 8, false, 888, 0, 2, 1, 136}, // 272 of 2048
		{1025, 8, false, 1032, 0, 3, 1, 1016},
		{1784, 8, false, 1784, 0, 3, 1, 264},
		{512, 8, true, 528, 8, 2, 1, 496},
		{512, 32, true, 576, 32, 2, 1, 448},
		{1024, 64, true, 1152, 64, 3, 1, 896},
	} {
		c.is(t)
	}
}

func TestMostObjects(t *testing.T) { // P15.1
	for size := 1; size <= 8; size++ { // 32 steps fit
		for _, align := range []int{1, 2, 4, 8} {
			worked{size, align, false, 8, 0, 0, 16, 128}.is(t)
		}
	}
	for size := 9; size <= 16; size++ { // just 16
		for _, align := range []int{1, 2, 4, 8, 16} {
			worked{size, align, false, 16, 0, 0, 16, 0}.is(t)
		}
	}
	many := 0
	for _, l := range chapter().of {
		if l.Objects == 16 {
			many++
		}
	}
	if many != 8*4+8*5+8 { // and sizes up to 8 in steps of 16
		t.Error("layouts with 16 objects:", many)
	}
}

func TestOffset(t *testing.T) { // P15.1: 8 of an alignment up to 8, or else the alignment; 0 of what is not guarded
	for _, align := range aligns() {
		for size := 1; size <= 1976; size++ {
			if l := made(t, size, align, true); l.Offset != max(8, align) {
				t.Fatalf("%+v", l)
			}
			if l := made(t, size, align, false); l.Offset != 0 {
				t.Fatalf("%+v", l)
			}
		}
	}
}

func TestEverySize(t *testing.T) { // P15.1: all that may be asked for
	none := map[int]int{}
	for q := range all {
		_, e := mustOf(t, q)
		if e == api.ErrSlab {
			none[q.align]++
		}
		if e == api.ErrSlab && !q.guarded {
			t.Fatalf("%+v: no slab", q)
		}
	}
	for align, want := range map[int]int{1: 16, 2: 16, 4: 16, 8: 16, 16: 24, 32: 40, 64: 72} {
		if none[align] != want {
			t.Errorf("with alignment %d %d sizes have no slab, not %d", align, none[align], want)
		}
	}
}

func TestNoSlab(t *testing.T) { // P15.1: the greatest guarded one that has one, and those behind it
	for align, most := range map[int]int{1: 2032, 2: 2032, 4: 2032, 8: 2032, 16: 2024, 32: 2008, 64: 1976} {
		worked{most, align, true, 2048, max(8, align), 3, 1, 0}.is(t)
		for size := most + 1; size <= 2048; size++ {
			if l, e := layout.Of(size, align, true); l != (api.Layout{}) || e != api.ErrSlab {
				t.Fatalf("Of(%d, %d, true): %+v, %d", size, align, l, e)
			}
			made(t, size, align, false)
		}
		if l, e := layout.Of(2049, align, true); l != (api.Layout{}) || e != api.ErrArg { // which is no size
			t.Errorf("Of(2049, %d, true): %+v, %d", align, l, e)
		}
	}
}

// noLayout holds an Of against ErrArg, beside which there is no layout.
func noLayout(t *testing.T, size, align int) {
	t.Helper()
	for _, guarded := range []bool{false, true} {
		if l, e := layout.Of(size, align, guarded); l != (api.Layout{}) || e != api.ErrArg {
			t.Fatalf("Of(%d, %d, %v): %+v, %d, not ErrArg", size, align, guarded, l, e)
		}
	}
}

func TestNoSizeOrAlign(t *testing.T) { // P15.1: that one of them is not valid comes ahead of ErrSlab
	for _, size := range sizes() {
		for _, align := range noAligns() {
			noLayout(t, size, align)
		}
	}
	for _, size := range noSizes() {
		for _, align := range slices.Concat(aligns(), noAligns()) {
			noLayout(t, size, align)
		}
	}
}

func TestEveryAlign(t *testing.T) { // P15.1: seven of all numbers are valid
	for _, size := range []int{1, 8, 100, 1976, 2048} {
		good := 0
		for align := -300; align <= 4200; align++ {
			for _, guarded := range []bool{false, true} {
				if _, e := mustOf(t, asked{size, align, guarded}); e != api.ErrArg {
					good++
				}
			}
		}
		if good != 2*7 {
			t.Error(size, "has alignments:", good)
		}
	}
}

func TestEdges(t *testing.T) { // P15.1
	seen := map[api.Errno]int{}
	for _, size := range sizes() {
		for _, align := range slices.Concat(aligns(), noAligns()) {
			for _, guarded := range []bool{false, true} {
				_, e := mustOf(t, asked{size, align, guarded})
				seen[e]++
			}
		}
	}
	if len(seen) != 3 || seen[api.OK] < 500 || seen[api.ErrSlab] < 50 || seen[api.ErrArg] < 5000 {
		t.Error("errors:", seen)
	}
}

func TestDefinitions(t *testing.T) { // P15.1: by what the layouts themselves tell, without the model
	for q := range all {
		l, e := layout.Of(q.size, q.align, q.guarded)
		if e != api.OK {
			continue
		}
		need := l.Offset + q.size
		if q.guarded {
			need += 8
		}
		unit := 8 // of a step
		if q.align > 8 {
			unit = q.align
		}
		if l.Step%8 != 0 || l.Step%q.align != 0 || l.Step < need || l.Step-unit >= need {
			t.Fatalf("%+v: step", l)
		}
		bytes := slabs()[l.Order]
		if l.Objects < 1 || l.Objects > 16 || l.Waste < 0 || l.Objects*l.Step+l.Waste != bytes || l.Objects < 16 && l.Waste >= l.Step {
			t.Fatalf("%+v: objects, waste", l)
		}
		if l.Size != q.size || l.Align != q.align || q.guarded && l.Offset < 8 {
			t.Fatalf("%+v: of %+v", l, q)
		}
		for order, less := range slabs()[:l.Order] { // why no lower one was taken
			left := less - min(less/l.Step, 16)*l.Step
			if less >= l.Step && (8*left <= less || 8*l.Waste > bytes) {
				t.Fatalf("%+v: order %d", l, order)
			}
		}
	}
}

func TestAt(t *testing.T) { // P15.2: each object of each layout, and none behind the last one
	for l := range chapter().valid {
		for i := range 18 {
			mustAt(t, l, i)
		}
		for _, i := range outside() {
			if at, e := mustAt(t, l, i); at != 0 || e != api.ErrRange {
				t.Fatalf("At(%+v, %d): %d, %d", l, i, at, e)
			}
		}
	}
}

func TestAtWorkedOut(t *testing.T) { // P15.2
	for _, c := range []struct {
		size, align int
		guarded     bool
		starts      []int
	}{
		{24, 8, false, []int{0, 24, 48, 72, 96, 120, 144, 168, 192, 216}},
		{8, 1, true, []int{8, 32, 56, 80, 104, 128, 152, 176, 200, 224}},
		{1, 1, false, []int{0, 8, 16, 24, 32, 40, 48, 56, 64, 72, 80, 88, 96, 104, 112, 120}},
		{16, 16, false, []int{0, 16, 32, 48, 64, 80, 96, 112, 128, 144, 160, 176, 192, 208, 224, 240}},
		{100, 8, false, []int{0, 104, 208, 312, 416, 520, 624, 728, 832}},
		{40, 16, true, []int{16, 80, 144, 208}},
		{57, 16, true, []int{16, 112, 208, 304, 400}},
		{25, 32, true, []int{32, 128, 224, 320, 416}},
		{57, 64, true, []int{64, 256, 448, 640, 832}},
		{257, 1, false, []int{0, 264, 528, 792, 1056, 1320, 1584}},
		{2048, 1, false, []int{0}},
		{2032, 8, true, []int{8}},
		{1976, 64, true, []int{64}},
	} {
		l := made(t, c.size, c.align, c.guarded)
		for i, want := range c.starts {
			if at, e := layout.At(l, i); at != want || e != api.OK {
				t.Errorf("At(%+v, %d): %d, %d, not %d", l, i, at, e, want)
			}
			if found, is := layout.Index(l, want); found != i || !is {
				t.Errorf("Index(%+v, %d): %d, %v, not %d", l, want, found, is, i)
			}
		}
		for _, i := range []int{-1, len(c.starts), 16, math.MinInt, math.MaxInt} {
			if at, e := layout.At(l, i); at != 0 || e != api.ErrRange {
				t.Errorf("At(%+v, %d): %d, %d", l, i, at, e)
			}
		}
	}
}

func TestIndex(t *testing.T) { // P15.2, P15.4: each byte of the slabs of the sizes at the edges
	found, none := 0, 0
	for _, l := range edges {
		for at := -1; at <= slabs()[l.Order]; at++ {
			if _, is := mustIndex(t, l, at); is {
				found++
			} else {
				none++
			}
		}
		for _, at := range outside() {
			mustIndex(t, l, at)
		}
	}
	if found < 2000 || none < 100000 {
		t.Error("bytes with an object, and without:", found, none)
	}
}

func TestIndexOfEveryLayout(t *testing.T) { // P15.2, P15.4: the bytes about the starts of steps and of objects, and behind the last one
	for l := range chapter().valid {
		for step := range l.Objects + 1 {
			for _, at := range []int{step * l.Step, step*l.Step + l.Offset} {
				mustIndex(t, l, at-1)
				mustIndex(t, l, at)
				mustIndex(t, l, at+1)
			}
		}
		for _, at := range outside() {
			mustIndex(t, l, at)
		}
	}
}

// mustBeNone holds At and Index of what is no layout against P15.2.
func mustBeNone(t *testing.T, l api.Layout) {
	t.Helper()
	for _, i := range append(outside(), 0, 1, l.Objects-1, l.Objects, 15, 16) { // that it is none comes ahead of the object
		if at, e := layout.At(l, i); at != 0 || e != api.ErrArg {
			t.Fatalf("At(%+v, %d): %d, %d", l, i, at, e)
		}
	}
	for _, at := range append(outside(), 0, 1, 8, 16, 32, 64, l.Offset, l.Step, l.Step+l.Offset) {
		if i, is := layout.Index(l, at); i != 0 || is {
			t.Fatalf("Index(%+v, %d): %d, %v", l, at, i, is)
		}
	}
}

func TestZeroLayout(t *testing.T) { // P15.2: what Of returns beside an error is no layout
	mustBeNone(t, api.Layout{})
	for _, q := range []asked{{0, 0, false}, {0, 1, true}, {8, 3, false}, {2048, 1, true}, {math.MinInt, math.MaxInt, true}} {
		l, e := layout.Of(q.size, q.align, q.guarded)
		if e == api.OK {
			t.Fatalf("%+v: %+v", q, l)
		}
		mustBeNone(t, l)
	}
}

// fields are the values of a layout.
func fields(l *api.Layout) []*int {
	return []*int{&l.Size, &l.Align, &l.Step, &l.Offset, &l.Order, &l.Objects, &l.Waste}
}

// mustBeAsSaid holds At and Index of what may be a layout against the model, and tells whether it is one.
func mustBeAsSaid(t *testing.T, l api.Layout) bool {
	t.Helper()
	starts, is := chapter().valid[l]
	if !is {
		mustBeNone(t, l)
		return false
	}
	for i := -1; i <= len(starts); i++ {
		mustAt(t, l, i)
	}
	for _, at := range starts {
		mustIndex(t, l, at)
		mustIndex(t, l, at+1)
	}
	return true
}

func TestOneOtherValue(t *testing.T) { // P15.2: most are no layout then; of another size or alignment it may be the same otherwise
	valid, none := make([]int, 7), make([]int, 7)
	for _, l := range edges {
		for field := range 7 {
			was := *fields(&l)[field]
			for _, value := range []int{was + 1, was - 1, was + 2, was * 2, -was, was + 8, was - 8, 0, math.MinInt, math.MaxInt, 1<<32 + was} {
				other := l
				*fields(&other)[field] = value
				if value == was {
					continue
				}
				if mustBeAsSaid(t, other) {
					valid[field]++
				} else {
					none[field]++
				}
			}
		}
	}
	for field := range 7 {
		if none[field] < 1000 || (valid[field] > 0) != (field < 2) || field < 2 && valid[field] < 500 {
			t.Fatal("with another value valid, and not:", valid, none)
		}
	}
}

func TestTwoOtherValues(t *testing.T) { // P15.2
	valid, none := 0, 0
	n := noise(15)
	for _, l := range edges {
		for first := range 7 {
			for second := range first {
				other := l
				*fields(&other)[first] += n.next(33) - 16
				*fields(&other)[second] += n.next(33) - 16
				if mustBeAsSaid(t, other) {
					valid++
				} else {
					none++
				}
			}
		}
	}
	if valid < 50 || none < 5000 {
		t.Error("valid, and not:", valid, none)
	}
}

func TestLayoutOfAnother(t *testing.T) { // P15.2: the values of one with the size or the alignment of another one
	n := noise(1)
	valid, none := 0, 0
	var l []api.Layout
	for _, of := range edges {
		l = append(l, of)
	}
	for range 20000 {
		of, as := l[n.next(len(l))], l[n.next(len(l))]
		for field := range 7 {
			if n.next(2) == 0 {
				*fields(&of)[field] = *fields(&as)[field]
			}
		}
		if mustBeAsSaid(t, of) {
			valid++
		} else {
			none++
		}
	}
	if valid < 100 || none < 10000 {
		t.Error("valid, and not:", valid, none)
	}
}

func TestGuardedAndNot(t *testing.T) { // P15.2: of one size and alignment both are valid, and nothing between them
	both := 0
	for q, plain := range edges {
		guarded, e := layout.Of(q.size, q.align, true)
		if q.guarded || e != api.OK {
			continue
		}
		both++
		for mask := range 1 << 7 {
			mixed := plain
			for field := range 7 {
				if mask>>field&1 == 1 {
					*fields(&mixed)[field] = *fields(&guarded)[field]
				}
			}
			if is := mustBeAsSaid(t, mixed); is != (mixed == plain || mixed == guarded) {
				t.Fatalf("%+v: %v, of %+v and %+v", mixed, is, plain, guarded)
			}
		}
		for i := range min(plain.Objects, guarded.Objects) {
			first, _ := mustAt(t, plain, i)
			second, _ := mustAt(t, guarded, i)
			if first != i*plain.Step || second != i*guarded.Step+guarded.Offset {
				t.Fatalf("%+v, %+v: %d is at %d and %d", plain, guarded, i, first, second)
			}
		}
	}
	if both < 300 {
		t.Error("sizes and alignments with both:", both)
	}
}

// mustLie holds the objects of a layout against P15.3, by what the package itself tells: no two of them share a byte, guarded ones with the 8 bytes on each side.
func mustLie(t *testing.T, q asked, l api.Layout) {
	t.Helper()
	beside := 0
	if q.guarded {
		beside = 8
	}
	slab := make([]byte, slabs()[l.Order])
	for i := range l.Objects {
		at, e := layout.At(l, i)
		if e != api.OK || at%q.align != 0 || at-beside < 0 || at+q.size+beside > len(slab) {
			t.Fatalf("At(%+v, %d): %d, %d", l, i, at, e)
		}
		for byteAt := at - beside; byteAt < at+q.size+beside; byteAt++ {
			if slab[byteAt]++; slab[byteAt] > 1 {
				t.Fatalf("%+v: byte %d is of several objects", l, byteAt)
			}
		}
	}
}

func TestObjectsLieApart(t *testing.T) { // P15.3: of all layouts
	for q := range all {
		if l, e := layout.Of(q.size, q.align, q.guarded); e == api.OK {
			mustLie(t, q, l)
		}
	}
}

func TestEachObjectIsFoundAtItsStart(t *testing.T) { // P15.4: of all layouts; by what the package itself tells
	for q := range all {
		l, e := layout.Of(q.size, q.align, q.guarded)
		if e != api.OK {
			continue
		}
		for i := range l.Objects {
			at, _ := layout.At(l, i)
			if found, is := layout.Index(l, at); found != i || !is {
				t.Fatalf("Index(%+v, %d): %d, %v, not %d", l, at, found, is, i)
			}
		}
	}
}

func TestNoObjectIsFoundElsewhere(t *testing.T) { // P15.4: as many bytes as objects are the start of one, and each one of another; by what the package itself tells
	for q, l := range edges {
		var found []int
		for at := -70; at < slabs()[l.Order]+70; at++ {
			i, is := layout.Index(l, at)
			if !is {
				continue
			}
			found = append(found, i)
			if start, e := layout.At(l, i); start != at || e != api.OK {
				t.Fatalf("%+v: Index(%d): %d, which is at %d, %d", q, at, i, start, e)
			}
		}
		if len(found) != l.Objects || !slices.IsSorted(found) || len(slices.Compact(found)) != l.Objects {
			t.Fatalf("%+v: found %v", l, found)
		}
	}
}

// answers is what calls return.
type answers struct {
	l      api.Layout
	ofE    api.Errno
	at     int
	atE    api.Errno
	i      int
	is     bool
	wrongE api.Errno
}

// ask makes calls: of what may be asked for, and of an object and a byte of it.
func ask(q asked, i, at int) answers {
	var a answers
	a.l, a.ofE = layout.Of(q.size, q.align, q.guarded)
	a.at, a.atE = layout.At(a.l, i)
	a.i, a.is = layout.Index(a.l, at)
	wrong := a.l
	wrong.Waste++
	_, a.wrongE = layout.At(wrong, i)
	return a
}

func TestSameAnswers(t *testing.T) { // R2: forwards, backwards, and from several goroutines
	type call struct {
		q     asked
		i, at int
	}
	n := noise(7)
	var calls []call
	for _, size := range sizes() {
		for _, align := range append(aligns(), 0, 3, 128) {
			calls = append(calls, call{asked{size, align, n.next(2) == 0}, n.next(18) - 1, n.next(300) / 8 * 8})
		}
	}
	first := make([]answers, len(calls))
	for at, c := range calls {
		first[at] = ask(c.q, c.i, c.at)
	}
	for at, c := range slices.Backward(calls) {
		if got := ask(c.q, c.i, c.at); got != first[at] {
			t.Fatalf("%+v: %+v, not %+v", c, got, first[at])
		}
	}
	var others sync.WaitGroup
	for range 4 {
		others.Go(func() {
			for at, c := range calls {
				if got := ask(c.q, c.i, c.at); got != first[at] {
					t.Errorf("%+v: %+v, not %+v", c, got, first[at])
					return
				}
			}
		})
	}
	others.Wait()
}

func TestSlabsOfAZone(t *testing.T) { // with the layers below: a block of pages has the objects of a layout, each of which has an owner
	z, e := zone.New(1, 64)
	if e != api.OK {
		t.Fatal(e)
	}
	for _, l := range edges {
		page, e := z.Alloc(0, l.Order, 3)
		if e != api.OK {
			t.Fatalf("%+v: %d", l, e)
		}
		o, e := owner.New(1, l.Objects)
		if e != api.OK {
			t.Fatalf("%+v: %d", l, e)
		}
		for i := range l.Objects {
			at, e := layout.At(l, i)
			first, is := z.Tag(page + at/api.PageBytes)
			last, isToo := z.Tag(page + (at+l.Size-1)/api.PageBytes)
			if e != api.OK || !is || !isToo || first.Head != page || last.Head != page || o.Set(0, i, 1) != api.OK {
				t.Fatalf("At(%+v, %d): %d, %d, which is not of block %d", l, i, at, e, page)
			}
		}
		if _, e := layout.At(l, o.Count(1)); e != api.ErrRange {
			t.Fatalf("%+v: %d", l, e)
		}
		if e := z.Free(0, page); e != api.OK {
			t.Fatalf("%+v: %d", l, e)
		}
	}
}
