package pick_test

import (
	"cmp"
	"math"
	"math/big"
	"slices"
	"testing"

	"wainscot/api"
	"wainscot/pick"
)

// The tests hold the package against the chapter said a second time, in another way: remainders of big numbers, processors sorted by how far they are behind the last one, and every window looked at.

// answer is what Pick and Next answer.
type answer struct {
	cpu int
	is  bool
}

// none is the answer where none runs.
var none = answer{}

// one is an answer that is there.
func one(cpu int) answer { return answer{cpu, true} }

// which is a list of what runs, written as in the chapter, with Y and N.
func which(text string) []bool {
	var l []bool
	for i := range len(text) {
		l = append(l, text[i] == 'Y')
	}
	return l
}

// numbers are those of the processors that run, in increasing order.
func numbers(runs []bool) []int {
	var l []int
	for cpu := range len(runs) {
		if runs[cpu] {
			l = append(l, cpu)
		}
	}
	return l
}

// wantPick is what Pick has to answer.
func wantPick(runs []bool, n int) answer {
	l := numbers(runs)
	if len(l) == 0 {
		return none
	}
	at := new(big.Int).Mod(big.NewInt(int64(n)), big.NewInt(int64(len(l))))
	return one(l[at.Int64()])
}

// wantNext is what Next has to answer: of those that run the one that is the least far behind the last one.
func wantNext(runs []bool, last int) answer {
	l := numbers(runs)
	if len(l) == 0 {
		return none
	}
	if last < 0 || last > len(runs)-1 {
		return one(slices.Min(l))
	}
	far := func(cpu int) int {
		if cpu > last {
			return cpu - last
		}
		return cpu + len(runs) - last
	}
	return one(slices.MinFunc(l, func(a, b int) int { return cmp.Compare(far(a), far(b)) }))
}

// wantGap is what Gap has to answer: the length of the longest window without a processor.
func wantGap(picked []int, cpu int) int {
	for length := len(picked); length > 0; length-- {
		for _, w := range windows(picked, length) {
			if !slices.Contains(w, cpu) {
				return length
			}
		}
	}
	return 0
}

// wantFair is what Fair has to answer.
func wantFair(picked []int, cpus, window int) bool {
	if cpus < 1 || cpus > 8 || window < 1 {
		return false
	}
	for _, w := range windows(picked, window) {
		for cpu := range cpus {
			if !slices.Contains(w, cpu) {
				return false
			}
		}
	}
	return true
}

// windows are all those of a length.
func windows(picked []int, length int) [][]int {
	var l [][]int
	for i := range picked {
		if length <= len(picked)-i {
			l = append(l, picked[i:][:length])
		}
	}
	return l
}

// mustPick holds Pick against what it has to answer.
func mustPick(t *testing.T, runs []bool, n int, want answer) {
	t.Helper()
	if cpu, is := pick.Pick(runs, n); (answer{cpu, is}) != want {
		t.Errorf("Pick(%v, %d): %d, %v, not %v", runs, n, cpu, is, want)
	}
}

// mustNext holds Next against what it has to answer.
func mustNext(t *testing.T, runs []bool, last int, want answer) {
	t.Helper()
	if cpu, is := pick.Next(runs, last); (answer{cpu, is}) != want {
		t.Errorf("Next(%v, %d): %d, %v, not %v", runs, last, cpu, is, want)
	}
}

// mustGap holds Gap against what it has to answer.
func mustGap(t *testing.T, picked []int, cpu, want int) {
	t.Helper()
	if got := pick.Gap(picked, cpu); got != want {
		t.Errorf("Gap(%v, %d): %d, not %d", picked, cpu, got, want)
	}
}

// mustFair holds Fair against what it has to answer.
func mustFair(t *testing.T, picked []int, cpus, window int, want bool) {
	t.Helper()
	if got := pick.Fair(picked, cpus, window); got != want {
		t.Errorf("Fair(%v, %d, %d): %v, not %v", picked, cpus, window, got, want)
	}
}

// lists are all lists of what runs, up to a length.
func lists(length int) [][]bool {
	l := [][]bool{nil, {}}
	for n := 1; n <= length; n++ {
		for bits := range 1 << n {
			runs := make([]bool, n)
			for cpu := range runs {
				runs[cpu] = bits>>cpu&1 == 1
			}
			l = append(l, runs)
		}
	}
	return l
}

// picks are all lists of picks up to a length, of the numbers from -1 to less than one.
func picks(length, below int) [][]int {
	all := [][]int{nil}
	from := 0
	for range length {
		to := len(all)
		for _, l := range all[from:to] {
			for p := -1; p < below; p++ {
				all = append(all, append(slices.Clone(l), p))
			}
		}
		from = to
	}
	return all
}

// long is a list that is much longer than there may be processors: each so many-th runs.
func long(length, each int) []bool {
	l := make([]bool, length)
	for cpu := range l {
		l[cpu] = cpu%each == each-1
	}
	return l
}

// numbersAround are numbers for picks and for last processors: the ends of int, and those around the lengths of lists.
func numbersAround(length int) []int {
	l := []int{math.MinInt, math.MinInt + 1, math.MinInt32, -4096, -1000, math.MaxInt32, math.MaxUint32, 1 << 62, math.MaxInt - 1, math.MaxInt}
	for n := -2*length - 2; n <= 2*length+2; n++ {
		l = append(l, n)
	}
	return l
}

// noise gives numbers without a pattern, the same ones each time.
type noise uint64

func (n *noise) next(below int) int {
	*n = *n*6364136223846793005 + 1442695040888963407
	return int(uint64(*n)>>33) % below
}

func TestPick(t *testing.T) { // P4.1, R1
	for _, runs := range lists(api.MaxCpus) {
		for _, n := range numbersAround(len(runs)) {
			mustPick(t, runs, n, wantPick(runs, n))
		}
	}
}

func TestPickOfNone(t *testing.T) { // P4.1
	for _, runs := range [][]bool{nil, {}, which("N"), which("NN"), which("NNNNNNNN"), make([]bool, 1000)} {
		for _, n := range []int{math.MinInt, -5, -1, 0, 1, 5, math.MaxInt} {
			mustPick(t, runs, n, none)
		}
	}
}

func TestPickOfOne(t *testing.T) { // P4.1
	for _, n := range numbersAround(8) {
		mustPick(t, which("Y"), n, one(0))
		mustPick(t, which("NNNNNNNY"), n, one(7))
		mustPick(t, which("NNNYNNNN"), n, one(3))
	}
}

func TestPickIsAModulo(t *testing.T) { // P4.1
	runs := which("NYNYYNNY") // 1, 3, 4, 7
	for _, c := range []struct{ n, cpu int }{
		{0, 1}, {1, 3}, {2, 4}, {3, 7}, {4, 1}, {8, 1}, {4000, 1}, {4001, 3},
		{-1, 7}, {-2, 4}, {-3, 3}, {-4, 1}, {-5, 7}, {-8, 1}, {-4000, 1}, {-4001, 7},
		{math.MaxInt, 7}, {math.MaxInt - 3, 1}, {math.MinInt, 1}, {math.MinInt + 1, 3},
	} {
		mustPick(t, runs, c.n, one(c.cpu))
	}
	mustPick(t, which("YYY"), math.MinInt, wantPick(which("YYY"), math.MinInt))
	mustPick(t, which("YYY"), math.MinInt+1, one(2)) // -(2^63 - 1) is -7 modulo 9, and 2 modulo 3
}

func TestLongLists(t *testing.T) { // P4.1, P4.2
	for _, length := range []int{9, 10, 100, 5000} {
		for _, each := range []int{1, 2, 3, 9, length} {
			runs := long(length, each)
			for _, n := range []int{math.MinInt, -length, -1, 0, 1, 8, 9, length / 2, length - 2, length - 1, length, length + 1, math.MaxInt} {
				mustPick(t, runs, n, wantPick(runs, n))
				mustNext(t, runs, n, wantNext(runs, n))
			}
		}
	}
}

func TestNext(t *testing.T) { // P4.2, R1
	for _, runs := range lists(api.MaxCpus) {
		for _, last := range numbersAround(len(runs)) {
			mustNext(t, runs, last, wantNext(runs, last))
		}
	}
}

func TestNextOfNone(t *testing.T) { // P4.2
	for _, runs := range [][]bool{nil, {}, which("N"), which("NN"), which("NNNNNNNN"), make([]bool, 1000)} {
		for _, last := range []int{math.MinInt, -1, 0, 1, 7, 8, 999, 1000, math.MaxInt} {
			mustNext(t, runs, last, none)
		}
	}
}

func TestNextOfOne(t *testing.T) { // P4.2
	for cpu := range 8 {
		runs := make([]bool, 8)
		runs[cpu] = true
		for last := -2; last < 10; last++ {
			mustNext(t, runs, last, one(cpu))
		}
	}
	for _, last := range numbersAround(1) {
		mustNext(t, which("Y"), last, one(0))
	}
}

func TestNextGoesRound(t *testing.T) { // P4.2
	runs := which("NYNYYNNY")
	for last, cpu := range []int{1, 3, 3, 4, 7, 7, 7, 1} {
		mustNext(t, runs, last, one(cpu))
	}
	for _, last := range []int{math.MinInt, math.MinInt + 1, -8, -1, 8, 9, 16, math.MaxInt - 1, math.MaxInt} {
		mustNext(t, runs, last, one(1))
	}
	mustNext(t, which("YNNY"), 3, one(0))
	mustNext(t, which("YNNY"), 4, one(0))
	mustNext(t, which("YNNY"), 0, one(3))
}

func TestNoProcessorAsLastIsAsNone(t *testing.T) { // P4.2
	for _, runs := range lists(5) {
		first, is := pick.Next(runs, -1)
		for _, last := range []int{math.MinInt, -2, len(runs), len(runs) + 1, len(runs) + 3, math.MaxInt} {
			mustNext(t, runs, last, answer{first, is})
		}
	}
}

func TestGap(t *testing.T) { // P4.3
	for _, picked := range picks(6, 3) {
		for _, cpu := range []int{math.MinInt, -2, -1, 0, 1, 2, 3, 9, math.MaxInt} {
			mustGap(t, picked, cpu, wantGap(picked, cpu))
		}
	}
}

func TestGapAtTheEnds(t *testing.T) { // P4.3
	for _, c := range []struct {
		picked    []int
		cpu, want int
	}{
		{nil, 0, 0},
		{[]int{}, 0, 0},
		{[]int{0}, 0, 0},
		{[]int{1}, 0, 1},
		{[]int{0, 0, 0, 0}, 0, 0},          // always picked
		{[]int{0, 1, 0, 1}, 2, 4},          // never picked
		{[]int{1, 1, 1, 0, 1, 0, 1}, 0, 3}, // the first ones
		{[]int{1, 0, 1, 0, 1, 1, 1}, 0, 3}, // the last ones
		{[]int{1, 0, 1, 1, 1, 0, 1}, 0, 3}, // those between
		{[]int{1, 1, 0, 1, 1}, 0, 2},       // gaps on both sides are two
		{[]int{1, 2, 3, 0}, 0, 3},          // a gap of several others
		{[]int{-1, 9, -1, -1, 9}, -1, 1},
		{[]int{-1, 9, -1, -1, 9}, 9, 2},
		{[]int{-1, 9, -1, -1, 9}, 0, 5},
		{[]int{math.MinInt, 0, math.MaxInt}, math.MaxInt, 2},
		{[]int{math.MinInt, 0, 0, math.MaxInt}, math.MinInt, 3},
	} {
		mustGap(t, c.picked, c.cpu, c.want)
	}
}

func TestFair(t *testing.T) { // P4.3, R1
	for _, picked := range picks(5, 3) {
		for _, cpus := range []int{math.MinInt, -1, 0, 1, 2, 3, 4, 7, 8, 9, 10, math.MaxInt} {
			for _, window := range []int{math.MinInt, -1, 0, 1, 2, 3, 4, 5, 6, 7, math.MaxInt} {
				mustFair(t, picked, cpus, window, wantFair(picked, cpus, window))
			}
		}
	}
}

func TestFairOfManyProcessors(t *testing.T) { // P4.3
	for cpus := 1; cpus <= api.MaxCpus; cpus++ {
		var picked []int
		for i := range 5 * cpus {
			picked = append(picked, i%cpus)
		}
		mustFair(t, picked, cpus, cpus, true)
		mustFair(t, picked, cpus, cpus-1, false)
		mustFair(t, picked, cpus, cpus+1, true)
		mustFair(t, picked, cpus+1, cpus+1, false) // one is never picked, or they are too many
		mustFair(t, picked, cpus+1, len(picked), false)
		mustFair(t, picked, cpus-1, cpus, cpus > 1)
	}
	mustFair(t, []int{0, 1, 2, 3, 4, 5, 6, 7, 8, 0, 1}, 9, 9, false)
	mustFair(t, []int{0, 1, 2, 3, 4, 5, 6, 7, 8, 0, 1}, 8, 9, true)
}

func TestFairWithoutAWindow(t *testing.T) { // P4.3
	for _, picked := range [][]int{nil, {}, {0}, {5, 5}, {-1, 9, 9}} {
		many := len(picked)
		for cpus := 1; cpus <= 8; cpus++ {
			for _, window := range []int{many + 1, many + 2, 4096, math.MaxInt} {
				mustFair(t, picked, cpus, window, true)
			}
		}
		for _, cpus := range []int{math.MinInt, -1, 0, 9, math.MaxInt} {
			mustFair(t, picked, cpus, many+1, false)
		}
		for _, window := range []int{math.MinInt, -1, 0} {
			mustFair(t, picked, 1, window, false)
		}
	}
	mustFair(t, []int{0, 1}, 2, 2, true) // as many as there are picks
	mustFair(t, []int{0, 0}, 2, 2, false)
	mustFair(t, []int{0, 0}, 2, 3, true)
}

func TestFairWithOneWindowAndNotWithTheNextSmaller(t *testing.T) { // P4.3, P4.6
	for _, c := range []struct {
		picked       []int
		cpus, window int
	}{
		{[]int{0, 0, 0, 0}, 1, 1},
		{[]int{0, 1, 0, 1, 0}, 2, 2},
		{[]int{0, 1, 1, 0, 1}, 2, 3},
		{[]int{1, 1, 1, 0, 1, 0}, 2, 4}, // a gap at the front
		{[]int{1, 0, 1, 0, 0, 0}, 2, 4}, // one at the end
		{[]int{0, 1, 2, 2, 1, 0, 0, 1, 2}, 3, 5},
		{[]int{0, -1, 9, 0, 9}, 1, 3}, // numbers that are no processors lengthen a gap
		{[]int{3, 2, 1, 0, 3, 2, 1, 0}, 4, 4},
		{[]int{0, 1}, 3, 3}, // there is no window of three
	} {
		mustFair(t, c.picked, c.cpus, c.window, true)
		mustFair(t, c.picked, c.cpus, c.window-1, false)
	}
}

func TestNumbersThatAreNoProcessors(t *testing.T) { // P4.3
	mustFair(t, []int{-1, 0, 9, 0, math.MaxInt, 0, math.MinInt}, 1, 2, true)
	mustFair(t, []int{-1, 0, 9, 0, math.MaxInt, 0, math.MinInt}, 1, 1, false)
	mustFair(t, []int{-1, -1}, 1, 2, false)
	mustFair(t, []int{-1, -1}, 1, 3, true)
	mustFair(t, []int{8, 9, 10}, 8, 1, false)
}

func TestArgumentsStay(t *testing.T) { // P4.4
	runs := which("NYNYYNNYYYYY")
	picked := []int{0, 1, -1, 2, 1, 0, 9, 9, 9, 9}
	for length := range runs {
		for n := -3; n < 15; n++ {
			pick.Pick(runs[:length], n)
			pick.Next(runs[:length], n)
		}
	}
	for length := range picked {
		for n := -3; n < 15; n++ {
			pick.Gap(picked[:length], n)
			pick.Fair(picked[:length], 1+n%8, n)
			pick.Fair(picked[:length], 2, n)
		}
	}
	if !slices.Equal(runs, which("NYNYYNNYYYYY")) {
		t.Errorf("%v", runs)
	}
	if want := []int{0, 1, -1, 2, 1, 0, 9, 9, 9, 9}; !slices.Equal(picked, want) {
		t.Errorf("%v, not %v", picked, want)
	}
}

func TestWhatIsReturnedRuns(t *testing.T) { // P4.5
	for _, runs := range lists(api.MaxCpus) {
		for _, n := range numbersAround(len(runs)) {
			for _, f := range []func([]bool, int) (int, bool){pick.Pick, pick.Next} {
				cpu, is := f(runs, n)
				if is != slices.Contains(runs, true) || is && !runs[cpu] || !is && cpu != 0 {
					t.Errorf("%v, %d: %d, %v", runs, n, cpu, is)
				}
			}
		}
	}
}

func TestEachIsPickedOnce(t *testing.T) { // P4.5
	for _, runs := range lists(api.MaxCpus) {
		want := numbers(runs)
		for _, from := range []int{math.MinInt, -20, -7, -1, 0, 1, 5, 100, math.MaxInt - 8} {
			var got []int
			for i := range want {
				cpu, _ := pick.Pick(runs, from+i)
				got = append(got, cpu)
			}
			slices.Sort(got)
			if !slices.Equal(got, want) {
				t.Errorf("%v, from %d: %v", runs, from, got)
			}
		}
	}
}

func TestNextIsFair(t *testing.T) { // P4.6
	for _, runs := range lists(api.MaxCpus) {
		running := numbers(runs)
		many := len(running)
		if many == 0 {
			continue
		}
		for _, first := range []int{-1, 0, len(runs) / 2, len(runs) - 1, len(runs)} {
			last := first
			var picked, renumbered []int
			for range 5 * many {
				last, _ = pick.Next(runs, last)
				picked = append(picked, last)
				renumbered = append(renumbered, slices.Index(running, last))
			}
			mustFair(t, renumbered, many, many, true)
			for _, cpu := range running {
				mustGap(t, picked, cpu, many-1)
			}
		}
	}
}

func TestFairAndGapAgree(t *testing.T) { // P4.6
	n := noise(4)
	for range 20000 {
		cpus := 1 + n.next(api.MaxCpus)
		var picked []int
		for range n.next(6 * cpus) {
			picked = append(picked, n.next(cpus))
		}
		longest := 0
		for cpu := range cpus {
			longest = max(longest, pick.Gap(picked, cpu))
		}
		for window := 1; window <= len(picked)+2; window++ {
			mustFair(t, picked, cpus, window, len(picked) < window || longest < window)
			mustFair(t, picked, cpus, window, wantFair(picked, cpus, window))
		}
	}
}

func TestTheSameAgain(t *testing.T) { // R2
	for _, runs := range lists(6) {
		for n := -8; n < 8; n++ {
			cpu, is := pick.Pick(runs, n)
			next, isNext := pick.Next(runs, n)
			pick.Pick([]bool{true, true}, 1)
			pick.Next([]bool{true, true}, 1)
			mustPick(t, slices.Clone(runs), n, answer{cpu, is})
			mustNext(t, slices.Clone(runs), n, answer{next, isNext})
		}
	}
}

func TestManyPicks(t *testing.T) { // P4.3
	picked := make([]int, 1<<20)
	for i := range picked {
		picked[i] = i % api.MaxCpus
	}
	for least := 8; least <= 16; least += 8 {
		for window := 7; window <= 17; window++ {
			if got := pick.Fair(picked, api.MaxCpus, window); got != (window >= least) {
				t.Errorf("a window of %d: %v", window, got)
			}
		}
		picked[1<<19] = 9 // 0 is missed once, so that its gap is twice as long
	}
}

func TestExamples(t *testing.T) {
	mustPick(t, which("NYY"), 0, one(1))
	mustPick(t, which("NYY"), 3, one(2))
	mustPick(t, which("NYY"), -1, one(2))
	mustPick(t, which("N"), 5, none)
	mustNext(t, which("YYN"), 1, one(0))
	mustNext(t, which("YYN"), 0, one(1))
	mustNext(t, which("NY"), 1, one(1))
	mustNext(t, which("Y"), 9, one(0))
	mustGap(t, []int{0, 1, 1, 0, 1}, 0, 2)
	mustFair(t, []int{0, 1, 1, 0, 1}, 2, 2, false)
	mustFair(t, []int{0, 1, 1, 0, 1}, 2, 3, true)
}
