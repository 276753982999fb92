package alias_test

import (
	"math"
	"slices"
	"sync"
	"testing"

	"wainscot/alias"
	"wainscot/api"
	"wainscot/layout"
	"wainscot/sizes"
)

// The tests hold the package against the chapter said a second time, in another way: all valid specifications are listed, each with its step, which is gone through from 0 on; so nothing is held against a bound. One serves for another one by going through multiples, and the first one of a list is found from behind. The properties P20.4 are held against what the package itself tells, without the model.

// aligns are all alignments that are valid: each one is twice the one before it.
func aligns() []int {
	return []int{8, 8 + 8, 8 + 8 + 8 + 8, 8 + 8 + 8 + 8 + 8 + 8 + 8 + 8}
}

// flagSums are all flags that are valid: each of the three is there or not.
func flagSums() []int {
	l := []int{0}
	for _, flag := range []int{api.FlagTyped, api.FlagGuard, api.FlagAlone} {
		for _, sum := range slices.Clone(l) {
			l = append(l, sum+flag)
		}
	}
	return l
}

// stepsOf are the steps of all specifications that are valid.
func stepsOf() map[api.Spec]int {
	steps := map[api.Spec]int{}
	for page := range 4 {
		for at := range api.PageBytes {
			size := page*api.PageBytes + at + 1
			for _, align := range aligns() {
				step := 0
				for step < size {
					step += align
				}
				for _, flags := range flagSums() {
					steps[api.Spec{Size: size, Align: align, Flags: flags}] = step
				}
			}
		}
	}
	return steps
}

// chapter is the model: the steps of all specifications that are valid.
var chapter = stepsOf()

// wantCheck is what Check has to return.
func wantCheck(s api.Spec) api.Errno {
	if _, is := chapter[s]; is {
		return api.OK
	}
	return api.ErrArg
}

// wantStep is what Step has to return.
func wantStep(s api.Spec) int { return chapter[s] }

// wantServes is what Serves has to return.
func wantServes(a, b api.Spec) bool {
	stepA, isA := chapter[a]
	stepB, isB := chapter[b]
	if !isA || !isB || stepA != stepB {
		return false
	}
	for _, flags := range flagSums()[1:] {
		if a.Flags == flags || b.Flags == flags {
			return false
		}
	}
	multiple := 0
	for multiple < a.Align {
		multiple += b.Align
	}
	return multiple == a.Align
}

// wantFind is what Find has to return.
func wantFind(l []api.Spec, one api.Spec) (i int, is bool) {
	for at, s := range slices.Backward(l) {
		if wantServes(s, one) {
			i, is = at, true
		}
	}
	return i, is
}

// mustCheck holds a Check and a Step against the model.
func mustCheck(t *testing.T, s api.Spec) (api.Errno, int) {
	t.Helper()
	e, step := alias.Check(s), alias.Step(s)
	if wantE, want := wantCheck(s), wantStep(s); e != wantE || step != want {
		t.Fatalf("%+v: Check %d, Step %d, not %d, %d", s, e, step, wantE, want)
	}
	return e, step
}

// mustServe holds a Serves against the model.
func mustServe(t *testing.T, a, b api.Spec) bool {
	t.Helper()
	is := alias.Serves(a, b)
	if want := wantServes(a, b); is != want {
		t.Fatalf("Serves(%+v, %+v): %t, not %t", a, b, is, want)
	}
	return is
}

// mustFind holds a Find against the model.
func mustFind(t *testing.T, l []api.Spec, one api.Spec) (int, bool) {
	t.Helper()
	i, is := alias.Find(l, one)
	if want, wantIs := wantFind(l, one); i != want || is != wantIs {
		t.Fatalf("Find(%+v, %+v): %d, %t, not %d, %t", l, one, i, is, want, wantIs)
	}
	return i, is
}

// spec is a specification without flags.
func spec(size, align int) api.Spec { return api.Spec{Size: size, Align: align} }

// edgeSizes are sizes at the edges of what is valid, and far from it.
func edgeSizes() []int {
	return []int{math.MinInt, math.MinInt + 1, math.MinInt + 8, math.MinInt32, -1<<32 - 8, -1 << 32, -1<<32 + 8, -1024, -64, -8, -1, 0,
		1, 2, 7, 8, 9, 64, 65, 512, 1000, 1016, 1017, 1023, 1024,
		1025, 1032, 1088, 2048, math.MaxInt32, 1 << 32, 1<<32 + 1, 1<<32 + 8, 1<<32 + 1024, 1 << 62, math.MaxInt - 64, math.MaxInt - 8, math.MaxInt - 7, math.MaxInt}
}

// edgeAligns are alignments that are valid, and others near them and far from them.
func edgeAligns() []int {
	return []int{math.MinInt, math.MinInt + 8, math.MinInt32, -1<<32 + 8, -64, -16, -8, -1, 0, 1, 2, 4, 7, 9, 10, 12, 15, 17, 24, 31, 33, 40, 48, 56, 63, 65, 72, 128, 256, 1024,
		math.MaxInt32, 1 << 32, 1<<32 + 8, 1<<32 + 64, 1 << 62, math.MaxInt - 7, math.MaxInt,
		8, 16, 32, 64}
}

// edgeFlags are flags that are valid, and others near them and far from them.
func edgeFlags() []int {
	return []int{math.MinInt, math.MinInt + 1, math.MinInt + 7, -1 << 32, -8, -7, -2, -1, 0, 1, 2, 3, 4, 5, 6, 7, 8, 9, 15, 16, 1024, 1<<32 - 1, 1 << 32, 1<<32 + 7, 1 << 62, math.MaxInt - 7, math.MaxInt}
}

// edges are the specifications of all edges together.
func edges() []api.Spec {
	var l []api.Spec
	for _, size := range edgeSizes() {
		for _, align := range edgeAligns() {
			for _, flags := range edgeFlags() {
				l = append(l, api.Spec{Size: size, Align: align, Flags: flags})
			}
		}
	}
	return l
}

// plain are valid specifications without flags: of small sizes, of those about a few steps of each alignment, and of the greatest ones.
func plain() []api.Spec {
	sizes := []int{127, 128, 129, 191, 192, 193, 255, 256, 257, 511, 512, 513, 768, 895, 896, 897, 959, 960, 961, 968, 976, 977, 991, 992, 993, 1007, 1008, 1009, 1015, 1016, 1017, 1023, 1024}
	for size := 1; size <= 80; size++ {
		sizes = append(sizes, size)
	}
	var l []api.Spec
	for _, size := range sizes {
		for _, align := range aligns() {
			l = append(l, spec(size, align))
		}
	}
	return l
}

// wrong are specifications that are not valid, most of them because of one number; many are alike otherwise.
func wrong() []api.Spec {
	l := []api.Spec{{}, {Flags: 8}, {Size: -1, Align: -1, Flags: -1}, {Size: 1025, Align: 7, Flags: 8}, {Size: math.MaxInt, Align: math.MaxInt, Flags: math.MaxInt}, {Size: math.MinInt, Align: math.MinInt, Flags: math.MinInt}}
	for _, size := range []int{math.MinInt, -1 << 32, -8, -1, 0, 1025, 1088, 1<<32 + 8, math.MaxInt} {
		for _, align := range aligns() {
			l = append(l, spec(size, align))
		}
	}
	for _, align := range []int{math.MinInt, -8, 0, 1, 4, 7, 9, 12, 24, 48, 128, 1<<32 + 8, math.MaxInt} {
		l = append(l, spec(8, align), spec(128, align), spec(1024, align))
	}
	for _, flags := range []int{math.MinInt, -8, -1, 8, 16, 1 << 32, math.MaxInt} {
		l = append(l, api.Spec{Size: 8, Align: 8, Flags: flags}, api.Spec{Size: 64, Align: 64, Flags: flags})
	}
	return l
}

func TestExamples(t *testing.T) { // of the chapter
	for s, want := range map[api.Spec]int{spec(20, 8): 24, spec(20, 16): 32, spec(0, 8): 0} {
		if step := alias.Step(s); step != want {
			t.Errorf("Step(%+v): %d, not %d", s, step, want)
		}
	}
	if !alias.Serves(spec(30, 16), spec(25, 8)) {
		t.Error("30/16/0 has to serve for 25/8/0")
	}
	if alias.Serves(spec(25, 8), spec(30, 16)) {
		t.Error("25/8/0 must not serve for 30/16/0")
	}
	if alone := (api.Spec{Size: 20, Align: 8, Flags: 4}); alias.Serves(alone, alone) {
		t.Error("20/8/4 must not serve for itself")
	}
	if i, is := alias.Find([]api.Spec{spec(8, 8), spec(30, 16), spec(25, 32)}, spec(31, 16)); i != 1 || !is {
		t.Errorf("Find: %d, %t, not 1", i, is)
	}
}

func TestModel(t *testing.T) { // Definitions: so many specifications are valid
	if len(chapter) != 1024*4*8 {
		t.Error(len(chapter))
	}
	for s, step := range chapter {
		if step < 8 || step > 1024 {
			t.Errorf("%+v: %d", s, step)
		}
	}
}

func TestEverySpec(t *testing.T) { // P20.1: all that are valid, and those about them
	seen := map[api.Errno]int{}
	for size := -70; size <= 1100; size++ {
		for align := -70; align <= 140; align++ {
			for flags := -2; flags <= 9; flags++ {
				e, _ := mustCheck(t, api.Spec{Size: size, Align: align, Flags: flags})
				seen[e]++
			}
		}
	}
	if len(seen) != 2 || seen[api.OK] != 1024*4*8 {
		t.Error("errors:", seen)
	}
}

func TestEdges(t *testing.T) { // P20.1: all edges, together
	seen := map[api.Errno]int{}
	for _, s := range edges() {
		e, _ := mustCheck(t, s)
		seen[e]++
	}
	if len(seen) != 2 || seen[api.OK] != 13*4*8 {
		t.Error("errors:", seen)
	}
}

// mustAll holds all valid specifications that get another number against what is wanted, without the model.
func mustAll(t *testing.T, want api.Errno, change func(s *api.Spec)) {
	t.Helper()
	for s := range chapter {
		change(&s)
		if e := alias.Check(s); e != want {
			t.Fatalf("Check(%+v): %d, not %d", s, e, want)
		}
		if step := alias.Step(s); (step == 0) != (want != api.OK) {
			t.Fatalf("Step(%+v): %d", s, step)
		}
		if is := alias.Serves(s, s); is != (want == api.OK && s.Flags == 0) {
			t.Fatalf("Serves(%+v) for itself: %t", s, is)
		}
	}
}

func TestSizeWithAllOthersValid(t *testing.T) { // P20.1
	for size, want := range map[int]api.Errno{
		math.MinInt: api.ErrArg, -1 << 32: api.ErrArg, -1: api.ErrArg, 0: api.ErrArg, 1: api.OK, 1023: api.OK, 1024: api.OK, 1025: api.ErrArg, 1<<32 + 8: api.ErrArg, math.MaxInt: api.ErrArg,
	} {
		mustAll(t, want, func(s *api.Spec) { s.Size = size })
	}
}

func TestAlignWithAllOthersValid(t *testing.T) { // P20.1
	for align, want := range map[int]api.Errno{
		math.MinInt: api.ErrArg, -8: api.ErrArg, 0: api.ErrArg, 1: api.ErrArg, 4: api.ErrArg, 7: api.ErrArg, 8: api.OK, 9: api.ErrArg, 12: api.ErrArg, 16: api.OK, 24: api.ErrArg, 32: api.OK, 48: api.ErrArg, 64: api.OK, 128: api.ErrArg,
		1<<32 + 8: api.ErrArg, math.MaxInt: api.ErrArg,
	} {
		mustAll(t, want, func(s *api.Spec) { s.Align = align })
	}
}

func TestFlagsWithAllOthersValid(t *testing.T) { // P20.1
	for flags, want := range map[int]api.Errno{
		math.MinInt: api.ErrArg, -1: api.ErrArg, 0: api.OK, 1: api.OK, 2: api.OK, 3: api.OK, 4: api.OK, 5: api.OK, 6: api.OK, 7: api.OK, 8: api.ErrArg, math.MaxInt: api.ErrArg,
	} {
		mustAll(t, want, func(s *api.Spec) { s.Flags = flags })
	}
}

func TestStepKnowsNoFlags(t *testing.T) { // P20.1: of each size and alignment it is one, whatever the flags are
	for s := range chapter {
		if step, plain := alias.Step(s), alias.Step(spec(s.Size, s.Align)); step != plain {
			t.Fatalf("Step(%+v): %d, and without flags %d", s, step, plain)
		}
	}
}

func TestWrong(t *testing.T) { // P20.1: what is not valid has no step, serves for nothing, and nothing serves for it
	good := slices.Concat(plain()[:80], []api.Spec{spec(1024, 8), spec(1024, 64)})
	for _, s := range wrong() {
		if e, step := alias.Check(s), alias.Step(s); e != api.ErrArg || step != 0 {
			t.Errorf("%+v: Check %d, Step %d", s, e, step)
		}
		for _, other := range slices.Concat(good, wrong()) {
			if alias.Serves(s, other) || alias.Serves(other, s) {
				t.Fatalf("Serves of %+v and %+v", s, other)
			}
		}
	}
}

func TestStepWorkedOut(t *testing.T) { // P20.1
	for _, c := range []struct {
		size int
		of   [4]int // alignments
	}{
		{1, [4]int{8, 16, 32, 64}},
		{7, [4]int{8, 16, 32, 64}},
		{8, [4]int{8, 16, 32, 64}},
		{9, [4]int{16, 16, 32, 64}},
		{16, [4]int{16, 16, 32, 64}},
		{17, [4]int{24, 32, 32, 64}},
		{24, [4]int{24, 32, 32, 64}},
		{25, [4]int{32, 32, 32, 64}},
		{32, [4]int{32, 32, 32, 64}},
		{33, [4]int{40, 48, 64, 64}},
		{63, [4]int{64, 64, 64, 64}},
		{64, [4]int{64, 64, 64, 64}},
		{65, [4]int{72, 80, 96, 128}},
		{100, [4]int{104, 112, 128, 128}},
		{500, [4]int{504, 512, 512, 512}},
		{900, [4]int{904, 912, 928, 960}},
		{960, [4]int{960, 960, 960, 960}},
		{961, [4]int{968, 976, 992, 1024}},
		{1000, [4]int{1000, 1008, 1024, 1024}},
		{1016, [4]int{1016, 1024, 1024, 1024}},
		{1017, [4]int{1024, 1024, 1024, 1024}},
		{1023, [4]int{1024, 1024, 1024, 1024}},
		{1024, [4]int{1024, 1024, 1024, 1024}},
		{1025, [4]int{0, 0, 0, 0}},
		{0, [4]int{0, 0, 0, 0}},
		{-1, [4]int{0, 0, 0, 0}},
	} {
		for i, align := range []int{8, 16, 32, 64} {
			for flags := range 8 {
				s := api.Spec{Size: c.size, Align: align, Flags: flags}
				if step := alias.Step(s); step != c.of[i] {
					t.Errorf("Step(%+v): %d, not %d", s, step, c.of[i])
				}
			}
		}
	}
}

func TestStepIsTheLeastMultiple(t *testing.T) { // P20.1: of all that are valid, without the model
	for s := range chapter {
		step := alias.Step(s)
		isMultiple, isLeast := false, false
		for multiple := 0; multiple <= step; multiple += s.Align {
			isMultiple = multiple == step
			isLeast = multiple-s.Align < s.Size
		}
		if !isMultiple || !isLeast || step < s.Size {
			t.Fatalf("Step(%+v): %d", s, step)
		}
	}
}

func TestServes(t *testing.T) { // P20.1: all pairs of valid ones of some sizes, both ways round
	l := plain()
	one, both := 0, 0
	for at, a := range l {
		for _, b := range l[at:] {
			there, back := mustServe(t, a, b), mustServe(t, b, a)
			if there != back {
				one++
			}
			if there && back {
				both++
			}
		}
	}
	if one < 1000 || both < 1000 {
		t.Error("pairs:", one, both)
	}
}

func TestServesWorkedOut(t *testing.T) { // P20.1
	for _, c := range []struct {
		a, b        api.Spec
		there, back bool
	}{
		{spec(1, 8), spec(8, 8), true, true},
		{spec(8, 8), spec(9, 8), false, false},
		{spec(9, 8), spec(16, 8), true, true},
		{spec(9, 16), spec(9, 8), true, false},
		{spec(8, 16), spec(8, 8), false, false}, // steps of 16 and of 8
		{spec(1, 16), spec(16, 8), true, false},
		{spec(17, 32), spec(32, 16), true, false},
		{spec(17, 32), spec(17, 8), false, false}, // 32 and 24
		{spec(17, 16), spec(17, 32), false, true},
		{spec(64, 64), spec(64, 8), true, false},
		{spec(1, 64), spec(57, 8), true, false},
		{spec(1, 64), spec(56, 8), false, false}, // 64 and 56
		{spec(1, 64), spec(49, 16), true, false},
		{spec(1, 64), spec(48, 16), false, false}, // 64 and 48
		{spec(1, 64), spec(33, 32), true, false},
		{spec(1, 64), spec(32, 32), false, false}, // 64 and 32
		{spec(65, 64), spec(64, 64), false, false},
		{spec(1024, 8), spec(1017, 8), true, true},
		{spec(1024, 8), spec(1016, 8), false, false},
		{spec(961, 64), spec(1024, 8), true, false},
		{spec(961, 64), spec(1017, 16), true, false},
		{spec(1024, 64), spec(1024, 32), true, false},
		{spec(1024, 64), spec(1025, 32), false, false},
	} {
		if there, back := alias.Serves(c.a, c.b), alias.Serves(c.b, c.a); there != c.there || back != c.back {
			t.Errorf("Serves of %+v and %+v: %t, the other way round %t", c.a, c.b, there, back)
		}
	}
}

func TestServesForSoMany(t *testing.T) { // P20.1: of each alignment up to its own so many sizes as the alignment has bytes; without the model
	for _, size := range []int{1, 8, 9, 63, 64, 65, 500, 960, 961, 1016, 1024} {
		for _, align := range aligns() {
			a, many := spec(size, align), map[int]int{}
			for b := range chapter {
				if alias.Serves(a, b) {
					many[b.Align]++
				}
			}
			for _, of := range aligns() {
				want := of
				if of > align {
					want = 0
				}
				if many[of] != want {
					t.Errorf("%+v serves for %d of alignment %d, not %d", a, many[of], of, want)
				}
			}
		}
	}
}

func TestServesFlags(t *testing.T) { // P20.1: a flag of either of them, or of both, and whatever serves without one
	pairs := [][2]api.Spec{
		{spec(8, 8), spec(8, 8)}, {spec(30, 16), spec(25, 8)}, {spec(64, 64), spec(57, 8)}, {spec(1024, 8), spec(1024, 8)}, {spec(1024, 64), spec(1000, 32)},
	}
	for _, pair := range pairs {
		for flagsA := -2; flagsA <= 9; flagsA++ {
			for flagsB := -2; flagsB <= 9; flagsB++ {
				a, b := pair[0], pair[1]
				a.Flags, b.Flags = flagsA, flagsB
				if is := mustServe(t, a, b); is != (flagsA == 0 && flagsB == 0) {
					t.Errorf("Serves(%+v, %+v): %t", a, b, is)
				}
				mustServe(t, b, a)
			}
		}
	}
}

func TestServesEdges(t *testing.T) { // P20.1: each edge as the one, as the other one, and as both
	others := []api.Spec{spec(1, 8), spec(8, 8), spec(9, 8), spec(64, 64), spec(1024, 8), spec(1024, 64), {Size: 8, Align: 8, Flags: 1}, spec(0, 8), spec(8, 0)}
	for _, s := range edges() {
		mustServe(t, s, s)
		for _, other := range others {
			mustServe(t, s, other)
			mustServe(t, other, s)
		}
	}
}

func TestServesIsNotSymmetric(t *testing.T) { // P20.1: both ways round just if they are of one alignment
	l := plain()
	for _, a := range l {
		for _, b := range l {
			if !alias.Serves(a, b) {
				continue
			}
			if back := alias.Serves(b, a); back != (a.Align == b.Align) {
				t.Fatalf("Serves(%+v, %+v), and the other way round: %t", a, b, back)
			}
		}
	}
}

func TestFindWorkedOut(t *testing.T) { // P20.2
	fit, other, coarse := spec(30, 16), spec(8, 8), spec(32, 64)
	bad, flagged := spec(31, 7), api.Spec{Size: 31, Align: 16, Flags: api.FlagTyped}
	for _, c := range []struct {
		l  []api.Spec
		i  int
		is bool
	}{
		{nil, 0, false},
		{[]api.Spec{}, 0, false},
		{[]api.Spec{fit}, 0, true},
		{[]api.Spec{other}, 0, false},
		{[]api.Spec{{}}, 0, false},
		{[]api.Spec{fit, fit, fit}, 0, true},
		{[]api.Spec{fit, other, other}, 0, true},
		{[]api.Spec{other, fit, other}, 1, true},
		{[]api.Spec{other, fit, fit}, 1, true},
		{[]api.Spec{other, other, fit}, 2, true},
		{[]api.Spec{other, other, other}, 0, false},
		{[]api.Spec{coarse, coarse}, 0, false}, // steps of 64
		{[]api.Spec{bad, flagged, fit}, 2, true},
		{[]api.Spec{{}, {}, bad, fit, bad}, 3, true},
		{[]api.Spec{bad, flagged, {}}, 0, false},
		{[]api.Spec{spec(25, 8), spec(25, 16), spec(25, 32)}, 1, true}, // the first of two, and of the one before them the alignment is too small
		{[]api.Spec{spec(25, 8), spec(24, 16), spec(1, 32)}, 1, true},
		{[]api.Spec{spec(25, 8), spec(16, 16), spec(1, 32)}, 2, true},
		{[]api.Spec{spec(32, 16), spec(31, 16)}, 0, true}, // one that is the same comes later
	} {
		if i, is := alias.Find(c.l, spec(31, 16)); i != c.i || is != c.is {
			t.Errorf("Find(%+v): %d, %t, not %d, %t", c.l, i, is, c.i, c.is)
		}
	}
}

func TestFindForWhatNothingServesFor(t *testing.T) { // P20.2: one that is not valid or has a flag, though it is in the list
	ones := wrong()
	for flags := 1; flags <= 7; flags++ {
		ones = append(ones, api.Spec{Size: 8, Align: 8, Flags: flags}, api.Spec{Size: 1024, Align: 64, Flags: flags})
	}
	good := []api.Spec{spec(1, 8), spec(8, 8), spec(1, 64), spec(64, 64), spec(128, 64), spec(1024, 64)}
	for _, one := range ones {
		for _, l := range [][]api.Spec{nil, {one}, {one, one}, good, slices.Concat([]api.Spec{one}, good), slices.Concat(good, []api.Spec{one}), slices.Concat(ones, good)} {
			if i, is := alias.Find(l, one); i != 0 || is {
				t.Errorf("Find(%+v, %+v): %d, %t", l, one, i, is)
			}
		}
	}
}

func TestEveryShortList(t *testing.T) { // P20.2: all lists of up to 4 of some specifications, for each of them
	of := []api.Spec{spec(25, 8), spec(30, 16), spec(32, 32), spec(33, 32), {Size: 30, Align: 16, Flags: 4}, spec(30, 7)}
	found := map[int]int{}
	var grow func(l []api.Spec)
	grow = func(l []api.Spec) {
		for _, one := range of {
			if i, is := mustFind(t, l, one); is {
				found[i]++
			} else {
				found[-1]++
			}
		}
		if len(l) == 4 {
			return
		}
		for _, s := range of {
			grow(append(slices.Clip(l), s))
		}
	}
	grow(nil)
	if len(found) != 5 {
		t.Error("found:", found)
	}
}

func TestFindAtEachPlace(t *testing.T) { // P20.2: of a long list the only one, and the first of many, at each place
	const many = 600
	one, other := spec(100, 32), spec(90, 32)
	for at := range many {
		l := slices.Repeat([]api.Spec{other}, many)
		l[at] = spec(128, 64)
		if i, is := alias.Find(l, one); i != at || !is {
			t.Fatalf("Find: %d, %t, not %d", i, is, at)
		}
		for behind := at + 1; behind < many; behind++ {
			l[behind] = one
		}
		if i, is := alias.Find(l, one); i != at || !is {
			t.Fatalf("Find of many: %d, %t, not %d", i, is, at)
		}
		if i, is := alias.Find(l[:at], one); i != 0 || is {
			t.Fatalf("Find ahead of it: %d, %t", i, is)
		}
	}
}

func TestFindAmongAll(t *testing.T) { // P20.2: in lists of all that are plain, forwards and backwards, and of those that are wrong ahead of them
	l := plain()
	back := slices.Clone(l)
	slices.Reverse(back)
	for _, one := range slices.Concat(l, wrong()) {
		mustFind(t, l, one)
		mustFind(t, back, one)
		mustFind(t, slices.Concat(wrong(), l), one)
		mustFind(t, wrong(), one)
	}
}

func TestFindByServes(t *testing.T) { // P20.2: by what the package itself tells
	l := plain()
	for at, one := range l {
		some := l[at/2 : min(at/2+90, len(l))]
		i, is := alias.Find(some, one)
		if is != slices.ContainsFunc(some, func(s api.Spec) bool { return alias.Serves(s, one) }) {
			t.Fatalf("Find for %+v: %t", one, is)
		}
		if is && !alias.Serves(some[i], one) || slices.ContainsFunc(some[:i], func(s api.Spec) bool { return alias.Serves(s, one) }) {
			t.Fatalf("Find for %+v: %d", one, i)
		}
	}
}

// loan is a list that is handed in, with memory ahead of it and behind it.
type loan struct{ all, was []api.Spec }

// lend has a list between specifications that each serve for themselves.
func lend(l []api.Spec) loan {
	all := slices.Concat([]api.Spec{spec(64, 64), spec(31, 16)}, l, []api.Spec{spec(31, 16), spec(64, 64), {}})
	return loan{all, slices.Clone(all)}
}

// list is what is handed in: its capacity has what is behind it.
func (l loan) list() []api.Spec { return l.all[2 : len(l.all)-3] }

// mustStay tells whether the memory is what it was.
func (l loan) mustStay(t *testing.T, name string) {
	t.Helper()
	if !slices.Equal(l.all, l.was) {
		t.Fatalf("%s has changed its list, or what is about it: %+v, not %+v", name, l.all, l.was)
	}
}

func TestArgumentsAreOnlyRead(t *testing.T) { // P20.3: the list, its elements, and its unused capacity
	for _, of := range [][]api.Spec{nil, {spec(8, 8)}, {spec(30, 16)}, {spec(8, 8), spec(30, 16), spec(25, 32)}, wrong(), plain(), slices.Concat(wrong(), plain())} {
		for _, one := range slices.Concat([]api.Spec{spec(31, 16), spec(64, 64), spec(1000, 8)}, wrong()) {
			l := lend(of)
			for range 2 {
				mustFind(t, l.list(), one)
				l.mustStay(t, "Find")
			}
		}
	}
}

func TestUnusedCapacityIsNotSearched(t *testing.T) { // P20.3: what is behind the end of a list is not of it
	l := lend([]api.Spec{spec(8, 8), spec(9, 8)})
	if i, is := alias.Find(l.list(), spec(31, 16)); i != 0 || is {
		t.Errorf("Find: %d, %t", i, is)
	}
	if i, is := alias.Find(l.list()[:0], spec(31, 16)); i != 0 || is {
		t.Errorf("Find of an empty list: %d, %t", i, is)
	}
	if i, is := alias.Find(l.list()[:3], spec(31, 16)); i != 2 || !is { // one element more
		t.Errorf("Find of a longer list: %d, %t", i, is)
	}
}

func TestListsAreNotKept(t *testing.T) { // P20.3: nothing comes of what is written into a list behind a call
	l := []api.Spec{spec(8, 8), spec(30, 16), spec(25, 32)}
	if i, is := alias.Find(l, spec(31, 16)); i != 1 || !is {
		t.Fatalf("Find: %d, %t", i, is)
	}
	l[0], l[1] = l[1], l[0]
	if i, is := alias.Find(l, spec(31, 16)); i != 0 || !is {
		t.Errorf("Find of other elements: %d, %t", i, is)
	}
	clear(l)
	if i, is := alias.Find(l, spec(31, 16)); i != 0 || is {
		t.Errorf("Find of no specifications: %d, %t", i, is)
	}
}

func TestServesForItself(t *testing.T) { // P20.4: each valid one without flags; and none with a flag, or that is not valid
	for _, s := range slices.Concat(edges(), plain(), wrong()) {
		want := alias.Check(s) == api.OK && s.Flags == 0
		if is := alias.Serves(s, s); is != want {
			t.Fatalf("Serves(%+v) for itself: %t", s, is)
		}
	}
	for s := range chapter {
		if is := alias.Serves(s, s); is != (s.Flags == 0) {
			t.Fatalf("Serves(%+v) for itself: %t", s, is)
		}
		if i, is := alias.Find([]api.Spec{{}, s}, s); is != (s.Flags == 0) || is && i != 1 || !is && i != 0 {
			t.Fatalf("Find of %+v for itself: %d, %t", s, i, is)
		}
	}
}

func TestTransitive(t *testing.T) { // P20.4: all chains of three, by what the package itself tells
	l := slices.Concat(plain(), wrong())
	for flags := 1; flags <= 7; flags++ {
		l = append(l, api.Spec{Size: 64, Align: 64, Flags: flags})
	}
	served := make([][]int, len(l)) // for each one, those for which it serves
	for i, a := range l {
		for j, b := range l {
			if alias.Serves(a, b) {
				served[i] = append(served[i], j)
			}
		}
	}
	chains := 0
	for i, a := range l {
		for _, j := range served[i] {
			for _, k := range served[j] {
				chains++
				if !alias.Serves(a, l[k]) {
					t.Fatalf("%+v serves for %+v, and that one for %+v, but the first one does not serve for the last one", a, l[j], l[k])
				}
			}
		}
	}
	if chains < 10000 {
		t.Error("chains:", chains)
	}
}

func TestHasRoom(t *testing.T) { // P20.4: one that serves for another one, by what the package itself tells
	l := slices.Concat(plain(), wrong())
	for _, a := range l {
		step := alias.Step(a)
		for _, b := range l {
			if !alias.Serves(a, b) {
				continue
			}
			if step < b.Size || step%b.Align != 0 || step < a.Size || step%a.Align != 0 || step == 0 {
				t.Fatalf("%+v, with a step of %d, serves for %+v", a, step, b)
			}
		}
	}
}

// call is arguments of all functions.
type call struct {
	l        []api.Spec
	one, two api.Spec
}

// answers is what calls return.
type answers struct {
	e         api.Errno
	step, i   int
	is, there bool
}

// ask makes all calls.
func (c call) ask() answers {
	a := answers{e: alias.Check(c.one), step: alias.Step(c.one), there: alias.Serves(c.one, c.two)}
	a.i, a.is = alias.Find(c.l, c.one)
	return a
}

// manyCalls are calls with specifications of all kinds, and lists that start at different ones.
func manyCalls() []call {
	l := slices.Concat(plain(), wrong())
	for at, s := range edges() {
		if at%7 == 0 {
			l = append(l, s)
		}
	}
	var calls []call
	for at, one := range l {
		from := at * 31 % len(l)
		calls = append(calls, call{l[from:min(from+at%20, len(l))], one, l[(at+1)%len(l)]}, call{l[max(at-3, 0):at], one, one})
	}
	return calls
}

func TestSameAnswers(t *testing.T) { // R2: forwards, backwards, behind what is refused, and from several goroutines
	calls := manyCalls()
	first := make([]answers, len(calls))
	for at, c := range calls {
		first[at] = c.ask()
	}
	for at, c := range slices.Backward(calls) {
		call{nil, api.Spec{}, spec(8, 8)}.ask()
		if got := c.ask(); got != first[at] {
			t.Fatalf("%+v: %+v, not %+v", c, got, first[at])
		}
		call{c.l, spec(1024, 64), c.one}.ask()
		if got := c.ask(); got != first[at] {
			t.Fatalf("%+v: %+v, not %+v", c, got, first[at])
		}
	}
	var others sync.WaitGroup
	for range 4 {
		others.Go(func() {
			for at, c := range calls {
				if got := c.ask(); got != first[at] {
					t.Errorf("%+v: %+v, not %+v", c, got, first[at])
					return
				}
			}
		})
	}
	others.Wait()
}

// left is the panic that leaves calls.
func left(calls func()) (panicked any) {
	defer func() { panicked = recover() }()
	calls()
	return nil
}

func TestNoPanicLeaves(t *testing.T) { // R1: each edge in each place
	for _, s := range edges() {
		for name, calls := range map[string]func(){
			"Check": func() { alias.Check(s) },
			"Step":  func() { alias.Step(s) },
			"Serves": func() {
				alias.Serves(s, s)
				alias.Serves(s, spec(8, 8))
				alias.Serves(spec(8, 8), s)
				alias.Serves(s, api.Spec{})
				alias.Serves(api.Spec{}, s)
			},
			"Find": func() {
				alias.Find(nil, s)
				alias.Find([]api.Spec{{}, s, spec(8, 8)}, s)
				alias.Find([]api.Spec{s}, spec(8, 8))
			},
		} {
			if p := left(calls); p != nil {
				t.Fatalf("%s with %+v: panic %v", name, s, p)
			}
		}
	}
}

func TestObjectsOfAMergedCache(t *testing.T) { // with a layer below: where objects of a cache lie, those of each one that it serves for may lie
	l := plain()
	for _, a := range l {
		of, e := layout.Of(a.Size, a.Align, false)
		if e != api.OK || of.Step != alias.Step(a) {
			t.Fatalf("%+v: %+v, %d; its step is %d", a, of, e, alias.Step(a))
		}
		for _, b := range l {
			if !alias.Serves(a, b) {
				continue
			}
			for object := range of.Objects {
				at, e := layout.At(of, object)
				if e != api.OK || at%b.Align != 0 || at+b.Size > api.PageBytes<<of.Order || b.Size > of.Step {
					t.Fatalf("%+v in slabs of %+v: object %d is at %d, %d", b, a, object, at, e)
				}
			}
		}
	}
}

func TestClassesStandAlone(t *testing.T) { // with a layer below: the cache of a class is valid, and neither serves nor is served
	plain := plain()
	for class := range sizes.Many {
		s, e := sizes.Spec(class)
		if e != api.OK || alias.Check(s) != api.OK || alias.Step(s) != s.Size {
			t.Fatalf("class %d: %+v, %d; Check %d, Step %d", class, s, e, alias.Check(s), alias.Step(s))
		}
		if i, is := alias.Find(slices.Concat([]api.Spec{s}, plain), s); is {
			t.Errorf("%d serves for the cache %+v", i, s)
		}
		for _, other := range plain {
			if alias.Serves(s, other) {
				t.Errorf("the cache %+v serves for %+v", s, other)
			}
		}
	}
}
