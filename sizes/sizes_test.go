package sizes_test

import (
	"math"
	"math/bits"
	"slices"
	"strconv"
	"strings"
	"sync"
	"testing"

	"wainscot/api"
	"wainscot/layout"
	"wainscot/sizes"
)

// The tests hold the package against the chapter said a second time, in another way: the classes are sizes in binary digits, which are gone through from the first one, without a search. A ruler, with a letter for each number of bytes, says the same once more. The property P19.3 is held against what the package itself tells, without the model.

// digits are the sizes of the classes, in binary digits.
func digits() []string {
	return []string{
		"1000",
		"10000",
		"100000", "110000",
		"1000000", "1100000",
		"10000000", "11000000",
		"100000000",
		"1000000000",
	}
}

// bytesOf are the sizes of the classes.
func bytesOf() []int {
	var l []int
	for _, text := range digits() {
		n := 0
		for _, digit := range text {
			n += n
			if digit == '1' {
				n++
			}
		}
		l = append(l, n)
	}
	return l
}

// chapter is the model: the sizes of the classes.
var chapter = bytesOf()

// wantClass is what Class has to return.
func wantClass(n int) (int, api.Errno) {
	if n <= 0 {
		return 0, api.ErrArg
	}
	for class, size := range chapter {
		if n <= size {
			return class, api.OK
		}
	}
	return 0, api.ErrRange
}

// wantSize is what Size has to return.
func wantSize(class int) (int, api.Errno) {
	for i, size := range chapter {
		if i == class {
			return size, api.OK
		}
	}
	return 0, api.ErrRange
}

// wantSpec is what Spec has to return.
func wantSpec(class int) (api.Spec, api.Errno) {
	for i, text := range digits() {
		if i != class {
			continue
		}
		align := 8
		if strings.HasSuffix(text, "0000") {
			align = 16
		}
		return api.Spec{Size: chapter[i], Align: align, Flags: 4}, api.OK
	}
	return api.Spec{}, api.ErrRange
}

// wantWaste is what Waste has to return: one for each number of bytes that the class would have room for besides.
func wantWaste(n int) int {
	class, e := wantClass(n)
	if e != api.OK {
		return 0
	}
	waste := 0
	for range chapter[class] {
		waste++
	}
	for range n {
		waste--
	}
	return waste
}

// mustClass holds a Class against the model.
func mustClass(t *testing.T, n int) (int, api.Errno) {
	t.Helper()
	class, e := sizes.Class(n)
	if want, wantE := wantClass(n); class != want || e != wantE {
		t.Fatalf("Class(%d): %d, %d, not %d, %d", n, class, e, want, wantE)
	}
	return class, e
}

// mustSize holds a Size against the model.
func mustSize(t *testing.T, class int) (int, api.Errno) {
	t.Helper()
	size, e := sizes.Size(class)
	if want, wantE := wantSize(class); size != want || e != wantE {
		t.Fatalf("Size(%d): %d, %d, not %d, %d", class, size, e, want, wantE)
	}
	return size, e
}

// mustSpec holds a Spec against the model.
func mustSpec(t *testing.T, class int) (api.Spec, api.Errno) {
	t.Helper()
	s, e := sizes.Spec(class)
	if want, wantE := wantSpec(class); s != want || e != wantE {
		t.Fatalf("Spec(%d): %+v, %d, not %+v, %d", class, s, e, want, wantE)
	}
	return s, e
}

// mustWaste holds a Waste against the model.
func mustWaste(t *testing.T, n int) int {
	t.Helper()
	waste := sizes.Waste(n)
	if want := wantWaste(n); waste != want {
		t.Fatalf("Waste(%d): %d, not %d", n, waste, want)
	}
	return waste
}

// tooFew are numbers of bytes that nobody can ask for.
func tooFew() []int {
	return []int{math.MinInt, math.MinInt + 1, math.MinInt + 8, math.MinInt + 512, math.MinInt + 513, -1 << 62, -1<<32 - 8, -1 << 32, -1<<32 + 1, -1<<32 + 8, -1<<32 + 512, -1<<32 + 513, math.MinInt32, math.MinInt32 + 8,
		-1 << 16, -1<<16 + 8, -1024, -513, -512, -511, -256, -255, -248, -128, -100, -48, -17, -16, -15, -9, -8, -7, -2, -1, 0}
}

// tooMany are numbers of bytes that are greater than each class.
func tooMany() []int {
	return []int{513, 514, 519, 520, 528, 599, 600, 601, 640, 767, 768, 1000, 1023, 1024, 1025, 2048, 4096, 1<<16 - 1, 1 << 16, 1<<16 + 1, 1<<16 + 8, 1<<16 + 512, math.MaxInt32, math.MaxInt32 + 1,
		1<<32 - 1, 1 << 32, 1<<32 + 1, 1<<32 + 8, 1<<32 + 100, 1<<32 + 512, 1<<32 + 513, 1 << 53, 1 << 62, math.MaxInt - 512, math.MaxInt - 8, math.MaxInt - 1, math.MaxInt}
}

// noClasses are numbers that no class has.
func noClasses() []int {
	return []int{math.MinInt, math.MinInt + 1, math.MinInt + 9, math.MinInt + 10, -1 << 62, -1<<32 - 1, -1 << 32, -1<<32 + 1, -1<<32 + 9, math.MinInt32, -1 << 16, -1<<16 + 3, -256, -255, -247, -100, -16, -11, -10, -9, -8, -3, -2, -1,
		10, 11, 12, 15, 16, 17, 100, 255, 256, 257, 265, 512, 1 << 16, 1<<16 + 1, math.MaxInt32, 1<<32 - 1, 1 << 32, 1<<32 + 1, 1<<32 + 3, 1<<32 + 9, 1 << 62, math.MaxInt - 9, math.MaxInt - 1, math.MaxInt}
}

// requests are all numbers of bytes with which the tests ask.
func requests() []int {
	l := slices.Concat(tooFew(), tooMany())
	for n := -1000; n <= 2000; n++ {
		l = append(l, n)
	}
	return l
}

// classes are all numbers of classes with which the tests ask.
func classes() []int {
	l := noClasses()
	for class := -300; class <= 1000; class++ {
		l = append(l, class)
	}
	return l
}

func TestExamples(t *testing.T) { // of the chapter
	for _, c := range []struct {
		n, class int
		e        api.Errno
	}{
		{1, 0, api.OK},
		{8, 0, api.OK},
		{9, 1, api.OK},
		{100, 6, api.OK},
		{512, 9, api.OK},
		{513, 0, api.ErrRange},
		{0, 0, api.ErrArg},
	} {
		if class, e := sizes.Class(c.n); class != c.class || e != c.e {
			t.Errorf("Class(%d): %d, %d, not %d, %d", c.n, class, e, c.class, c.e)
		}
	}
	if size, e := sizes.Size(3); size != 48 || e != api.OK {
		t.Errorf("Size(3): %d, %d", size, e)
	}
	if size, e := sizes.Size(10); size != 0 || e != api.ErrRange {
		t.Errorf("Size(10): %d, %d", size, e)
	}
	if waste := sizes.Waste(100); waste != 28 {
		t.Errorf("Waste(100): %d", waste)
	}
	if waste := sizes.Waste(600); waste != 0 {
		t.Errorf("Waste(600): %d", waste)
	}
	if s, e := sizes.Spec(0); s != (api.Spec{Size: 8, Align: 8, Flags: 4}) || e != api.OK {
		t.Errorf("Spec(0): %+v, %d", s, e)
	}
	if s, e := sizes.Spec(3); s != (api.Spec{Size: 48, Align: 16, Flags: 4}) || e != api.OK {
		t.Errorf("Spec(3): %+v, %d", s, e)
	}
}

func TestMany(t *testing.T) { // Definitions: ten classes, by a constant
	var each [sizes.Many]int
	if len(each) != 10 || len(chapter) != 10 {
		t.Fatal(len(each), len(chapter))
	}
	for class := range each {
		if _, e := sizes.Size(class); e != api.OK {
			t.Errorf("Size(%d): %d", class, e)
		}
	}
	if size, e := sizes.Size(sizes.Many); size != 0 || e != api.ErrRange {
		t.Errorf("Size(Many): %d, %d", size, e)
	}
}

func TestDefinitions(t *testing.T) { // the classes as the chapter writes them
	const text = "8, 16, 32, 48, 64, 96, 128, 192, 256, 512"
	for class, word := range strings.Split(text, ", ") {
		if size, e := sizes.Size(class); strconv.Itoa(size) != word || e != api.OK {
			t.Errorf("Size(%d): %d, %d, not %s", class, size, e, word)
		}
	}
}

func TestTwosAndThrees(t *testing.T) { // Definitions: the powers of two from 8 to 512, and between 32 and 256 what is in the midst of two of them
	var want []int
	for n := 8; n <= 512; n++ {
		isMidst := bits.OnesCount(uint(n)) == 2 && n&(n>>1) != 0
		if bits.OnesCount(uint(n)) == 1 || isMidst && n > 32 && n < 256 {
			want = append(want, n)
		}
	}
	var got []int
	for class := range sizes.Many {
		size, _ := sizes.Size(class)
		got = append(got, size)
	}
	if !slices.Equal(got, want) || !slices.Equal(chapter, want) {
		t.Errorf("%d, and in the model %d, not %d", got, chapter, want)
	}
}

// ruler has the letter of the class of each number of bytes, from 1 on: as many of a letter as the class is greater than the one before it.
func ruler() string {
	return strings.Repeat("A", 8) + strings.Repeat("B", 8) +
		strings.Repeat("C", 16) + strings.Repeat("D", 16) + strings.Repeat("E", 16) +
		strings.Repeat("F", 32) + strings.Repeat("G", 32) +
		strings.Repeat("H", 64) + strings.Repeat("I", 64) +
		strings.Repeat("J", 256)
}

func TestRuler(t *testing.T) { // P19.1, P19.2: each number of bytes, without the model
	marks := ruler()
	if len(marks) != 512 {
		t.Fatal(len(marks))
	}
	for i, letter := range marks {
		n := i + 1
		if class, e := sizes.Class(n); class != int(letter-'A') || e != api.OK {
			t.Errorf("Class(%d): %d, %d, not %c", n, class, e, letter)
		}
		behind := strings.Count(marks[n:], string(letter)) // up to where the class ends
		if waste := sizes.Waste(n); waste != behind {
			t.Errorf("Waste(%d): %d, not %d", n, waste, behind)
		}
	}
	for class := range sizes.Many {
		end := strings.LastIndexByte(marks, byte('A'+class)) + 1
		if size, e := sizes.Size(class); size != end || e != api.OK {
			t.Errorf("Size(%d): %d, %d, not %d", class, size, e, end)
		}
	}
}

func TestClass(t *testing.T) { // P19.1: all numbers near those that have a class
	seen := map[api.Errno]int{}
	of := map[int]int{}
	for n := -1000; n <= 2000; n++ {
		class, e := mustClass(t, n)
		seen[e]++
		if e == api.OK {
			of[class]++
		}
	}
	if len(seen) != 3 || seen[api.ErrArg] != 1001 || seen[api.OK] != 512 || seen[api.ErrRange] != 1488 {
		t.Error("errors:", seen)
	}
	if len(of) != 10 || of[0] != 8 || of[9] != 256 {
		t.Error("numbers of each class:", of)
	}
}

func TestClassEnds(t *testing.T) { // P19.1: the least and the greatest number of each class
	for class, c := range [][2]int{{1, 8}, {9, 16}, {17, 32}, {33, 48}, {49, 64}, {65, 96}, {97, 128}, {129, 192}, {193, 256}, {257, 512}} {
		for _, n := range c {
			if got, e := sizes.Class(n); got != class || e != api.OK {
				t.Errorf("Class(%d): %d, %d, not %d", n, got, e, class)
			}
		}
	}
}

func TestTooFew(t *testing.T) { // P19.1, P19.2: beside ErrArg there is no class, and no waste
	for _, n := range tooFew() {
		if class, e := sizes.Class(n); class != 0 || e != api.ErrArg {
			t.Errorf("Class(%d): %d, %d, not ErrArg", n, class, e)
		}
		if waste := sizes.Waste(n); waste != 0 {
			t.Errorf("Waste(%d): %d, not 0", n, waste)
		}
	}
}

func TestTooMany(t *testing.T) { // P19.1, P19.2: beside ErrRange there is no class, and no waste
	for _, n := range tooMany() {
		if class, e := sizes.Class(n); class != 0 || e != api.ErrRange {
			t.Errorf("Class(%d): %d, %d, not ErrRange", n, class, e)
		}
		if waste := sizes.Waste(n); waste != 0 {
			t.Errorf("Waste(%d): %d, not 0", n, waste)
		}
	}
}

func TestSize(t *testing.T) { // P19.1: all numbers near those of classes
	seen := map[api.Errno]int{}
	for class := -300; class <= 1000; class++ {
		_, e := mustSize(t, class)
		seen[e]++
	}
	if len(seen) != 2 || seen[api.OK] != 10 || seen[api.ErrRange] != 1291 {
		t.Error("errors:", seen)
	}
}

func TestSpec(t *testing.T) { // P19.2: all numbers near those of classes
	seen := map[api.Errno]int{}
	for class := -300; class <= 1000; class++ {
		_, e := mustSpec(t, class)
		seen[e]++
	}
	if len(seen) != 2 || seen[api.OK] != 10 || seen[api.ErrRange] != 1291 {
		t.Error("errors:", seen)
	}
}

func TestNoClasses(t *testing.T) { // P19.1, P19.2: beside ErrRange there is no size, and no cache
	for _, class := range noClasses() {
		if size, e := sizes.Size(class); size != 0 || e != api.ErrRange {
			t.Errorf("Size(%d): %d, %d, not ErrRange", class, size, e)
		}
		if s, e := sizes.Spec(class); s != (api.Spec{}) || e != api.ErrRange {
			t.Errorf("Spec(%d): %+v, %d, not ErrRange", class, s, e)
		}
	}
}

func TestSpecWorkedOut(t *testing.T) { // P19.2
	for class, want := range []api.Spec{
		{Size: 8, Align: 8, Flags: api.FlagAlone},
		{Size: 16, Align: 16, Flags: api.FlagAlone},
		{Size: 32, Align: 16, Flags: api.FlagAlone},
		{Size: 48, Align: 16, Flags: api.FlagAlone},
		{Size: 64, Align: 16, Flags: api.FlagAlone},
		{Size: 96, Align: 16, Flags: api.FlagAlone},
		{Size: 128, Align: 16, Flags: api.FlagAlone},
		{Size: 192, Align: 16, Flags: api.FlagAlone},
		{Size: 256, Align: 16, Flags: api.FlagAlone},
		{Size: 512, Align: 16, Flags: api.FlagAlone},
	} {
		if s, e := sizes.Spec(class); s != want || e != api.OK {
			t.Errorf("Spec(%d): %+v, %d, not %+v", class, s, e, want)
		}
	}
}

func TestSpecOfItsClass(t *testing.T) { // P19.2: by what the package itself tells
	for class := range sizes.Many {
		size, _ := sizes.Size(class)
		s, e := sizes.Spec(class)
		if e != api.OK || s.Size != size {
			t.Errorf("Spec(%d): %+v, %d; its size is %d", class, s, e, size)
		}
		if (s.Align == 16) != (size%16 == 0) || s.Align != 16 && s.Align != 8 {
			t.Errorf("Spec(%d): %+v: alignment", class, s)
		}
		if s.Flags&api.FlagAlone == 0 || s.Flags&api.FlagTyped != 0 || s.Flags&api.FlagGuard != 0 || s.Flags < 0 || s.Flags > api.MostFlags {
			t.Errorf("Spec(%d): %+v: flags", class, s)
		}
	}
}

func TestWaste(t *testing.T) { // P19.2: all numbers near those that have a class
	none, all := 0, 0
	for n := -1000; n <= 2000; n++ {
		waste := mustWaste(t, n)
		if waste == 0 {
			none++
		}
		all += waste
	}
	if none != 1001+1488+10 { // without a class; and the size of each class
		t.Error("numbers without waste:", none)
	}
	if all != 7*4+7*4+15*8*3+31*16*2+63*32*2+255*128 { // of a class with k numbers: 0 to k-1
		t.Error("waste of all numbers:", all)
	}
}

func TestWasteWorkedOut(t *testing.T) { // P19.2
	for n, want := range map[int]int{
		1: 7, 2: 6, 7: 1, 8: 0, 9: 7, 15: 1, 16: 0, 17: 15, 32: 0, 33: 15, 48: 0, 49: 15, 64: 0, 65: 31, 96: 0, 97: 31, 100: 28, 127: 1, 128: 0,
		129: 63, 192: 0, 193: 63, 256: 0, 257: 255, 258: 254, 300: 212, 384: 128, 511: 1, 512: 0, 513: 0, 600: 0, 0: 0, -1: 0,
	} {
		if waste := sizes.Waste(n); waste != want {
			t.Errorf("Waste(%d): %d, not %d", n, waste, want)
		}
	}
}

func TestEdges(t *testing.T) { // P19.1, P19.2: all numbers with which the tests ask
	for _, n := range requests() {
		mustClass(t, n)
		mustWaste(t, n)
	}
	for _, class := range classes() {
		mustSize(t, class)
		mustSpec(t, class)
	}
}

// sizeOf is the size of a class that there is.
func sizeOf(t *testing.T, class int) int {
	t.Helper()
	size, e := sizes.Size(class)
	if e != api.OK {
		t.Fatalf("Size(%d): %d", class, e)
	}
	return size
}

func TestSizesBelong(t *testing.T) { // P19.3: the size of a class to the class, that of the previous one not; by what the package itself tells
	previous := 0
	for class := range sizes.Many {
		size := sizeOf(t, class)
		if size <= previous {
			t.Errorf("Size(%d): %d, and the previous one %d", class, size, previous)
		}
		for _, n := range []int{previous + 1, size} { // the least and the greatest number of it
			if got, e := sizes.Class(n); got != class || e != api.OK {
				t.Errorf("Class(%d): %d, %d, not %d", n, got, e, class)
			}
		}
		if got, e := sizes.Class(previous); e == api.OK && got == class {
			t.Errorf("Class(%d): %d, though it is the size of the previous one", previous, got)
		}
		previous = size
	}
	if class, e := sizes.Class(previous + 1); class != 0 || e != api.ErrRange {
		t.Errorf("Class(%d), of more than each class: %d, %d", previous+1, class, e)
	}
}

func TestNumbersBelong(t *testing.T) { // P19.3: each number of bytes fits into its class, and not into the previous one; by what the package itself tells
	for n := 1; n <= sizeOf(t, sizes.Many-1); n++ {
		class, e := sizes.Class(n)
		if e != api.OK || sizeOf(t, class) < n {
			t.Fatalf("Class(%d): %d, %d", n, class, e)
		}
		if class > 0 && sizeOf(t, class-1) >= n {
			t.Fatalf("Class(%d): %d, but the previous one has room", n, class)
		}
	}
}

func TestMonotone(t *testing.T) { // P19.3: all pairs of numbers, by what the package itself tells
	most := sizeOf(t, sizes.Many-1)
	for more := 1; more <= most; more++ {
		of, e := sizes.Class(more)
		if e != api.OK {
			t.Fatalf("Class(%d): %d", more, e)
		}
		for less := 1; less <= more; less++ {
			if class, e := sizes.Class(less); class > of || e != api.OK {
				t.Fatalf("Class(%d): %d, %d, and Class(%d): %d", less, class, e, more, of)
			}
		}
	}
}

func TestLittleWaste(t *testing.T) { // P19.3: less than half of what is allocated, except for 8 bytes; all numbers, by what the package itself tells
	much := 0
	for _, n := range requests() {
		class, e := sizes.Class(n)
		waste := sizes.Waste(n)
		if e != api.OK {
			if waste != 0 {
				t.Fatalf("Waste(%d): %d without a class", n, waste)
			}
			continue
		}
		size := sizeOf(t, class)
		if waste < 0 || waste+n != size {
			t.Fatalf("Waste(%d): %d of %d", n, waste, size)
		}
		if 2*waste < size {
			continue
		}
		if size != 8 {
			t.Fatalf("Waste(%d): %d of %d", n, waste, size)
		}
		much++
	}
	if much != 4 { // 1 to 4 of 8 bytes
		t.Error("numbers with much waste:", much)
	}
}

// answers is what calls return.
type answers struct {
	class, size, waste   int
	spec                 api.Spec
	classE, sizeE, specE api.Errno
}

// ask makes all calls for a number.
func ask(n int) answers {
	var a answers
	a.class, a.classE = sizes.Class(n)
	a.size, a.sizeE = sizes.Size(n)
	a.spec, a.specE = sizes.Spec(n)
	a.waste = sizes.Waste(n)
	return a
}

func TestSameAnswers(t *testing.T) { // R2: forwards, backwards, behind what is refused, and from several goroutines
	numbers := slices.Concat(requests(), classes())
	first := make([]answers, len(numbers))
	for at, n := range numbers {
		first[at] = ask(n)
	}
	for at, n := range slices.Backward(numbers) {
		ask(math.MinInt)
		if got := ask(n); got != first[at] {
			t.Fatalf("%d: %+v, not %+v", n, got, first[at])
		}
		ask(math.MaxInt)
		if got := ask(n); got != first[at] {
			t.Fatalf("%d: %+v, not %+v", n, got, first[at])
		}
	}
	var others sync.WaitGroup
	for range 4 {
		others.Go(func() {
			for at, n := range numbers {
				if got := ask(n); got != first[at] {
					t.Errorf("%d: %+v, not %+v", n, got, first[at])
					return
				}
			}
		})
	}
	others.Wait()
}

// left is the panic that leaves calls.
func left(calls func()) (panicked any) {
	defer func() { panicked = recover() }()
	calls()
	return nil
}

func TestNoPanicLeaves(t *testing.T) { // R1: each call for each number
	for _, n := range slices.Concat(requests(), classes()) {
		for name, call := range map[string]func(){
			"Class": func() { sizes.Class(n) },
			"Size":  func() { sizes.Size(n) },
			"Spec":  func() { sizes.Spec(n) },
			"Waste": func() { sizes.Waste(n) },
		} {
			if p := left(call); p != nil {
				t.Errorf("%s(%d): panic %v", name, n, p)
			}
		}
	}
}

func TestClassesInSlabs(t *testing.T) { // with a layer below: each cache has slabs, whose objects lie without a gap
	for class := range sizes.Many {
		s, e := sizes.Spec(class)
		if e != api.OK {
			t.Fatal(class, e)
		}
		l, e := layout.Of(s.Size, s.Align, false)
		if e != api.OK || l.Step != s.Size { // so that the waste of a class is all that its steps waste
			t.Fatalf("class %d: %+v, %d", class, l, e)
		}
		for object := range l.Objects {
			at, e := layout.At(l, object)
			if e != api.OK || at%s.Align != 0 || at+s.Size > api.PageBytes<<l.Order {
				t.Fatalf("class %d: object %d is at %d, %d", class, object, at, e)
			}
		}
	}
}
