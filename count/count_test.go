package count_test

import (
	"fmt"
	"math"
	"math/bits"
	"slices"
	"strconv"
	"sync"
	"testing"

	"wainscot/api"
	"wainscot/count"
	"wainscot/layout"
	"wainscot/link"
	"wainscot/mem"
)

// The tests hold the package against the chapter said a second time, in another way: all counts, all heads and all parts are listed, each with its word, which is a text of binary digits; whether there are such counts, and what a word decodes to, is looked up there. P17.3 and P17.4 are held against what the package itself tells as well, without the lists.

// head is a slab and an object; part is a slab and how many there are from it on.
type (
	head struct{ slab, obj int }
	part struct{ slab, many int }
)

// noHead and noPart are what stands beside false, and what 0 decodes to.
var (
	noHead = head{-1, -1}
	noPart = part{-1, 0}
)

// book is things and their words, in both directions.
type book[T comparable] struct {
	things []T
	words  map[T]uint64
	back   map[uint64]T
}

// enter puts a thing into a book, with its word in binary digits. Neither may be there already.
func (b *book[T]) enter(thing T, digits string) {
	w, err := strconv.ParseUint(digits, 2, 64)
	if err != nil {
		panic(err)
	}
	if b.words == nil {
		b.words, b.back = map[T]uint64{}, map[uint64]T{}
	}
	b.words[thing], b.back[w] = w, thing
	b.things = append(b.things, thing)
	if len(b.words) != len(b.things) || len(b.back) != len(b.things) {
		panic(fmt.Sprint("twice: ", thing, " or ", digits))
	}
}

// word is what the package has to encode a thing as.
func (b *book[T]) word(thing T) (uint64, api.Errno) {
	if w, is := b.words[thing]; is {
		return w, api.OK
	}
	return 0, api.ErrArg
}

// thing is what the package has to decode a word to; none stands beside false.
func (b *book[T]) thing(w uint64, none T) (T, bool) {
	if thing, is := b.back[w]; is {
		return thing, true
	}
	return none, false
}

// digit is that of a bool.
func digit(is bool) string {
	return map[bool]string{true: "1", false: "0"}[is]
}

// countsBook is all counts: live, frozen, objects, in use.
var countsBook = func() *book[api.Counts] {
	b := &book[api.Counts]{}
	b.enter(api.Counts{}, "0")
	for objects := 1; objects <= 16; objects++ {
		for inuse := range objects + 1 {
			for _, frozen := range []bool{false, true} {
				b.enter(api.Counts{Inuse: inuse, Objects: objects, Frozen: frozen, Live: true}, "1"+digit(frozen)+fmt.Sprintf("%08b%08b", objects, inuse))
			}
		}
	}
	return b
}()

// headBook is all heads: one more than the slab, one more than the object.
var headBook = func() *book[head] {
	b := &book[head]{}
	b.enter(noHead, "0")
	for slab := range 32 {
		for more := range 17 {
			b.enter(head{slab, more - 1}, fmt.Sprintf("%06b%06b", slab+1, more))
		}
	}
	return b
}()

// partBook is all parts: how many, one more than the slab.
var partBook = func() *book[part] {
	b := &book[part]{}
	b.enter(noPart, "0")
	for slab := range 32 {
		for many := 1; many <= 63; many++ {
			b.enter(part{slab, many}, fmt.Sprintf("%06b%06b", many, slab+1))
		}
	}
	return b
}()

// mustPack holds a Pack against the list.
func mustPack(t *testing.T, c api.Counts) (uint64, api.Errno) {
	t.Helper()
	w, e := count.Pack(c)
	if wantW, wantE := countsBook.word(c); w != wantW || e != wantE {
		t.Fatalf("Pack(%+v): %#x, %d, not %#x, %d", c, w, e, wantW, wantE)
	}
	return w, e
}

// mustCounts holds a Counts against the list.
func mustCounts(t *testing.T, w uint64) (api.Counts, bool) {
	t.Helper()
	c, is := count.Counts(w)
	if wantC, wantIs := countsBook.thing(w, api.Counts{}); c != wantC || is != wantIs {
		t.Fatalf("Counts(%#x): %+v, %v, not %+v, %v", w, c, is, wantC, wantIs)
	}
	return c, is
}

// mustHead holds a Head against the list.
func mustHead(t *testing.T, slab, obj int) (uint64, api.Errno) {
	t.Helper()
	w, e := count.Head(slab, obj)
	if wantW, wantE := headBook.word(head{slab, obj}); w != wantW || e != wantE {
		t.Fatalf("Head(%d, %d): %#x, %d, not %#x, %d", slab, obj, w, e, wantW, wantE)
	}
	return w, e
}

// mustHeadOf holds a HeadOf against the list.
func mustHeadOf(t *testing.T, w uint64) (head, bool) {
	t.Helper()
	slab, obj, is := count.HeadOf(w)
	if want, wantIs := headBook.thing(w, noHead); (head{slab, obj}) != want || is != wantIs {
		t.Fatalf("HeadOf(%#x): %d, %d, %v, not %+v, %v", w, slab, obj, is, want, wantIs)
	}
	return head{slab, obj}, is
}

// mustPart holds a Part against the list.
func mustPart(t *testing.T, slab, many int) (uint64, api.Errno) {
	t.Helper()
	w, e := count.Part(slab, many)
	if wantW, wantE := partBook.word(part{slab, many}); w != wantW || e != wantE {
		t.Fatalf("Part(%d, %d): %#x, %d, not %#x, %d", slab, many, w, e, wantW, wantE)
	}
	return w, e
}

// mustPartOf holds a PartOf against the list.
func mustPartOf(t *testing.T, w uint64) (part, bool) {
	t.Helper()
	slab, many, is := count.PartOf(w)
	if want, wantIs := partBook.thing(w, noPart); (part{slab, many}) != want || is != wantIs {
		t.Fatalf("PartOf(%#x): %d, %d, %v, not %+v, %v", w, slab, many, is, want, wantIs)
	}
	return part{slab, many}, is
}

// mustDecode holds all that decodes words against the lists.
func mustDecode(t *testing.T, w uint64) {
	t.Helper()
	mustCounts(t, w)
	mustHeadOf(t, w)
	mustPartOf(t, w)
}

// ends are numbers that are too small, too great, or at an end of what counts, heads and parts may have, and some that look like one of these if bits of them are left out.
func ends() []int {
	l := []int{math.MinInt, math.MinInt + 1, math.MinInt + 16, math.MinInt32, -1 << 40, -1 << 32, -1<<32 + 1, -65536, -257, -256, -255, -240, -65, -64, -63, -33, -32, -31, -17, -16, -3, -2, -1,
		0, 1, 2, 3, 5, 7, 8, 9, 14, 15, 16, 17, 18, 29, 30, 31, 32, 33, 61, 62, 63, 64, 65, 66, 127, 128, 255, 256, 257, 272, 511, 512, 4095, 4096, 1 << 16, 1<<16 + 1, 1 << 17, 1 << 24,
		math.MaxInt32, 1 << 31, 1 << 32, 1<<32 + 1, 1<<32 + 16, 1 << 48, 1 << 56, 1<<56 + 1, 1 << 58, 1<<58 + 1, 1 << 62, math.MaxInt - 63, math.MaxInt - 16, math.MaxInt - 1, math.MaxInt}
	return l
}

// noise gives words without a pattern, the same ones each time.
type noise uint64

func (n *noise) word() uint64 {
	var w uint64
	for range 2 {
		*n = *n*6364136223846793005 + 1442695040888963407
		w = w<<32 | uint64(*n)>>32
	}
	return w
}

func (n *noise) next(below int) int {
	return int(n.word() % uint64(below))
}

func TestExamples(t *testing.T) { // of the chapter
	if w, e := count.Pack(api.Counts{Inuse: 3, Objects: 10, Frozen: true, Live: true}); w != 199171 || e != api.OK {
		t.Errorf("Pack of 3 of 10, frozen: %d, %d", w, e)
	}
	for _, c := range []struct {
		slab, obj int
		want      uint64
		e         api.Errno
	}{{0, 0, 65, api.OK}, {31, -1, 2048, api.OK}, {-1, -1, 0, api.OK}, {-1, 0, 0, api.ErrArg}} {
		if w, e := count.Head(c.slab, c.obj); w != c.want || e != c.e {
			t.Errorf("Head(%d, %d): %d, %d, not %d, %d", c.slab, c.obj, w, e, c.want, c.e)
		}
	}
	for _, c := range []struct {
		slab, many int
		want       uint64
		e          api.Errno
	}{{0, 1, 65, api.OK}, {31, 63, 4064, api.OK}, {-1, 0, 0, api.OK}, {0, 0, 0, api.ErrArg}} {
		if w, e := count.Part(c.slab, c.many); w != c.want || e != c.e {
			t.Errorf("Part(%d, %d): %d, %d, not %d, %d", c.slab, c.many, w, e, c.want, c.e)
		}
	}
	if c, is := count.Counts(131072); c != (api.Counts{}) || is {
		t.Errorf("Counts(131072): %+v, %v", c, is)
	}
	if slab, obj, is := count.HeadOf(64); slab != 0 || obj != -1 || !is {
		t.Errorf("HeadOf(64): %d, %d, %v", slab, obj, is)
	}
	if slab, obj, is := count.HeadOf(1); slab != -1 || obj != -1 || is {
		t.Errorf("HeadOf(1): %d, %d, %v", slab, obj, is)
	}
	if slab, many, is := count.PartOf(1); slab != -1 || many != 0 || is {
		t.Errorf("PartOf(1): %d, %d, %v", slab, many, is)
	}
}

func TestCountsWorkedOut(t *testing.T) { // P17.1: words that were worked out outside of the program
	for _, c := range []struct {
		inuse, objects int
		frozen         bool
		want           uint64
	}{
		{0, 1, false, 131328},
		{1, 1, false, 131329},
		{0, 1, true, 196864},
		{1, 1, true, 196865},
		{0, 10, false, 133632},
		{9, 10, false, 133641},
		{3, 10, false, 133635},
		{7, 15, true, 200455},
		{0, 16, false, 135168},
		{15, 16, false, 135183},
		{16, 16, false, 135184},
		{0, 16, true, 200704},
		{16, 16, true, 200720},
	} {
		counts := api.Counts{Inuse: c.inuse, Objects: c.objects, Frozen: c.frozen, Live: true}
		if w, e := count.Pack(counts); w != c.want || e != api.OK {
			t.Errorf("Pack(%+v): %d, %d, not %d", counts, w, e, c.want)
		}
		if got, is := count.Counts(c.want); got != counts || !is {
			t.Errorf("Counts(%d): %+v, %v, not %+v", c.want, got, is, counts)
		}
		if countsBook.words[counts] != c.want {
			t.Errorf("%+v is listed with %d, not %d", counts, countsBook.words[counts], c.want)
		}
	}
}

func TestPositionsWorkedOut(t *testing.T) { // P17.2: words that were worked out outside of the program
	for _, c := range []struct {
		head head
		want uint64
	}{{head{0, -1}, 64}, {head{0, 15}, 80}, {head{1, -1}, 128}, {head{1, 0}, 129}, {head{15, 7}, 1032}, {head{30, 14}, 1999}, {head{31, 0}, 2049}, {head{31, 15}, 2064}} {
		if w, e := count.Head(c.head.slab, c.head.obj); w != c.want || e != api.OK {
			t.Errorf("Head of %+v: %d, %d, not %d", c.head, w, e, c.want)
		}
		if slab, obj, is := count.HeadOf(c.want); (head{slab, obj}) != c.head || !is {
			t.Errorf("HeadOf(%d): %d, %d, %v, not %+v", c.want, slab, obj, is, c.head)
		}
		if headBook.words[c.head] != c.want {
			t.Errorf("%+v is listed with %d, not %d", c.head, headBook.words[c.head], c.want)
		}
	}
	for _, c := range []struct {
		part part
		want uint64
	}{{part{0, 2}, 129}, {part{1, 1}, 66}, {part{0, 63}, 4033}, {part{15, 32}, 2064}, {part{30, 62}, 3999}, {part{31, 1}, 96}, {part{31, 32}, 2080}, {part{1, 31}, 1986}} {
		if w, e := count.Part(c.part.slab, c.part.many); w != c.want || e != api.OK {
			t.Errorf("Part of %+v: %d, %d, not %d", c.part, w, e, c.want)
		}
		if slab, many, is := count.PartOf(c.want); (part{slab, many}) != c.part || !is {
			t.Errorf("PartOf(%d): %d, %d, %v, not %+v", c.want, slab, many, is, c.part)
		}
		if partBook.words[c.part] != c.want {
			t.Errorf("%+v is listed with %d, not %d", c.part, partBook.words[c.part], c.want)
		}
	}
}

// eachKind calls a function with counts that are frozen or not, and live or not.
func eachKind(inuse, objects int, call func(c api.Counts)) {
	for _, frozen := range []bool{false, true} {
		for _, live := range []bool{false, true} {
			call(api.Counts{Inuse: inuse, Objects: objects, Frozen: frozen, Live: live})
		}
	}
}

func TestPack(t *testing.T) { // P17.1: each number of objects, and of those in use, near what may be and far from it
	seen := map[api.Errno]int{}
	pack := func(c api.Counts) {
		_, e := mustPack(t, c)
		seen[e]++
	}
	for objects := -20; objects <= 300; objects++ {
		for inuse := -20; inuse <= 300; inuse++ {
			eachKind(inuse, objects, pack)
		}
	}
	if len(seen) != 2 || seen[api.OK] != 305 {
		t.Error("counts, and what is none:", seen)
	}
	for _, objects := range ends() {
		for _, inuse := range ends() {
			eachKind(inuse, objects, pack)
		}
		for inuse := range 18 {
			eachKind(inuse, objects, pack)
		}
	}
	for objects := -1; objects <= 17; objects++ {
		for _, inuse := range ends() {
			eachKind(inuse, objects, pack)
		}
	}
}

// mustBeNoCounts holds a Pack against ErrArg, beside which there is no word.
func mustBeNoCounts(t *testing.T, c api.Counts) {
	t.Helper()
	if w, e := count.Pack(c); w != 0 || e != api.ErrArg {
		t.Errorf("Pack(%+v): %#x, %d, not ErrArg", c, w, e)
	}
}

func TestPackOfNoCounts(t *testing.T) { // P17.1
	for _, c := range []api.Counts{
		{Live: true}, {Frozen: true}, {Frozen: true, Live: true},
		{Objects: 1}, {Objects: 16}, {Inuse: 1}, {Inuse: 16}, {Inuse: 1, Objects: 1}, {Inuse: 3, Objects: 10}, {Objects: 10, Frozen: true}, {Inuse: 16, Objects: 16, Frozen: true},
		{Inuse: 1, Live: true}, {Inuse: 1, Frozen: true}, {Inuse: -1, Live: true}, {Inuse: -1}, {Objects: -1},
		{Inuse: -1, Objects: -1, Live: true}, {Inuse: math.MinInt, Objects: math.MinInt, Live: true}, {Inuse: math.MaxInt, Objects: math.MaxInt, Live: true},
		{Inuse: 256, Objects: 1, Live: true}, {Inuse: -256, Objects: 2, Live: true}, {Inuse: 1 << 16, Objects: 1, Live: true}, {Inuse: 1 << 17, Objects: 1}, {Objects: 256 + 1, Live: true},
	} {
		mustBeNoCounts(t, c)
	}
}

func TestPackUpToAllInUse(t *testing.T) { // P17.1: as many in use as there are, and one more; none, and one less
	for objects := 1; objects <= 16; objects++ {
		for _, frozen := range []bool{false, true} {
			for _, inuse := range []int{0, objects} {
				c := api.Counts{Inuse: inuse, Objects: objects, Frozen: frozen, Live: true}
				w, e := count.Pack(c)
				if got, is := count.Counts(w); got != c || !is || e != api.OK {
					t.Errorf("Pack(%+v): %#x, %d, which decodes to %+v, %v", c, w, e, got, is)
				}
			}
			mustBeNoCounts(t, api.Counts{Inuse: objects + 1, Objects: objects, Frozen: frozen, Live: true})
			mustBeNoCounts(t, api.Counts{Inuse: -1, Objects: objects, Frozen: frozen, Live: true})
			mustBeNoCounts(t, api.Counts{Inuse: objects, Objects: objects, Frozen: frozen})
			mustBeNoCounts(t, api.Counts{Objects: objects, Frozen: frozen})
		}
	}
}

func TestZeroCounts(t *testing.T) { // P17.1: the word of zero counts is 0
	if w, e := count.Pack(api.Counts{}); w != 0 || e != api.OK {
		t.Errorf("Pack of zero counts: %#x, %d", w, e)
	}
	if c, is := count.Counts(0); c != (api.Counts{}) || !is {
		t.Errorf("Counts(0): %+v, %v", c, is)
	}
}

func TestCounts(t *testing.T) { // P17.1: all words that have no bit above those of counts, and more
	found := 0
	for w := range uint64(1 << 18) {
		if _, is := mustCounts(t, w); is {
			found++
		}
	}
	if found != 305 {
		t.Error("counts:", found)
	}
	for w := uint64(1 << 18); w < 1<<20; w++ {
		if c, is := count.Counts(w); c != (api.Counts{}) || is {
			t.Fatalf("Counts(%#x): %+v, %v", w, c, is)
		}
	}
}

// farWords are words far from any that is encoded, though some bits of some of them look like one.
func farWords() []uint64 {
	l := []uint64{1 << 18, 1<<18 + 1, 1 << 63, 1<<63 + 65, 1<<63 + 131328, 1<<63 - 1, 1<<64 - 1, 1<<64 - 2, 1<<64 - 64, 1<<64 - 65, 1<<32 - 1, 1 << 32, 1<<32 + 65, 1<<32 + 199171, 1 << 31, 1<<31 + 65, 0x0101010101010101, 0x4141414141414141}
	for bit := range 64 {
		l = append(l, 1<<bit, ^uint64(1<<bit), 1<<bit-1, -uint64(1<<bit))
	}
	return l
}

func TestFarWords(t *testing.T) { // P17.1, P17.2
	for _, w := range farWords() {
		mustDecode(t, w)
	}
	for _, w := range []uint64{1 << 18, 1 << 63, 1<<63 + 65, 1<<64 - 1} { // which nothing is encoded as
		if c, is := count.Counts(w); c != (api.Counts{}) || is {
			t.Errorf("Counts(%#x): %+v, %v", w, c, is)
		}
		if slab, obj, is := count.HeadOf(w); slab != -1 || obj != -1 || is {
			t.Errorf("HeadOf(%#x): %d, %d, %v", w, slab, obj, is)
		}
		if slab, many, is := count.PartOf(w); slab != -1 || many != 0 || is {
			t.Errorf("PartOf(%#x): %d, %d, %v", w, slab, many, is)
		}
	}
}

func TestCountsOfOtherBits(t *testing.T) { // P17.1: words that have one bit more, or less, than those of counts, or two that differ
	for _, c := range countsBook.things {
		w := countsBook.words[c]
		for bit := range 64 {
			mustCounts(t, w^1<<bit)
			if got, is := count.Counts(w | 1<<bit); bit >= 18 && (got != api.Counts{} || is) {
				t.Fatalf("Counts(%#x): %+v, %v", w|1<<bit, got, is)
			}
			for other := range bit {
				mustCounts(t, w^1<<bit^1<<other)
			}
		}
	}
}

func TestHead(t *testing.T) { // P17.2
	seen := map[api.Errno]int{}
	for slab := -80; slab <= 300; slab++ {
		for obj := -80; obj <= 300; obj++ {
			_, e := mustHead(t, slab, obj)
			seen[e]++
		}
	}
	if len(seen) != 2 || seen[api.OK] != 1+32*17 {
		t.Error("heads, and what is none:", seen)
	}
	for _, end := range ends() {
		for _, other := range ends() {
			mustHead(t, end, other)
		}
		for inside := -2; inside <= 33; inside++ {
			mustHead(t, end, inside)
			mustHead(t, inside, end)
		}
	}
}

func TestPart(t *testing.T) { // P17.2
	seen := map[api.Errno]int{}
	for slab := -80; slab <= 300; slab++ {
		for many := -80; many <= 300; many++ {
			_, e := mustPart(t, slab, many)
			seen[e]++
		}
	}
	if len(seen) != 2 || seen[api.OK] != 1+32*63 {
		t.Error("parts, and what is none:", seen)
	}
	for _, end := range ends() {
		for _, other := range ends() {
			mustPart(t, end, other)
		}
		for inside := -2; inside <= 65; inside++ {
			mustPart(t, end, inside)
			mustPart(t, inside, end)
		}
	}
}

func TestNoHeads(t *testing.T) { // P17.2: beside ErrArg there is no word
	for _, h := range []head{{-1, 0}, {-1, 15}, {-1, -2}, {-2, -1}, {-2, -2}, {-2, 0}, {32, -1}, {32, 0}, {32, 16}, {0, -2}, {0, 16}, {31, 16}, {31, -2}, {-1, 16}, {math.MinInt, -1}, {math.MaxInt, -1}, {math.MinInt, math.MinInt}, {math.MaxInt, math.MaxInt}, {0, math.MinInt}, {0, math.MaxInt}, {-1, math.MaxInt}, {1 << 58, 0}, {0, 64}, {0, -65}} {
		if w, e := count.Head(h.slab, h.obj); w != 0 || e != api.ErrArg {
			t.Errorf("Head of %+v: %#x, %d, not ErrArg", h, w, e)
		}
	}
}

func TestNoParts(t *testing.T) { // P17.2: beside ErrArg there is no word
	for _, p := range []part{{-1, 1}, {-1, 63}, {-1, -1}, {-1, 64}, {-2, 0}, {-2, 1}, {0, 0}, {31, 0}, {0, -1}, {0, 64}, {31, 64}, {32, 0}, {32, 1}, {32, 63}, {63, 1}, {64, 1}, {math.MinInt, 0}, {math.MaxInt, 0}, {math.MinInt, math.MinInt}, {math.MaxInt, math.MaxInt}, {0, math.MinInt}, {0, math.MaxInt}, {-1, math.MinInt}, {0, 1 << 58}, {0, 65}} {
		if w, e := count.Part(p.slab, p.many); w != 0 || e != api.ErrArg {
			t.Errorf("Part of %+v: %#x, %d, not ErrArg", p, w, e)
		}
	}
}

func TestEmpty(t *testing.T) { // P17.2: 0 is the empty one, and that is true
	if w, e := count.Head(-1, -1); w != 0 || e != api.OK {
		t.Errorf("Head(-1, -1): %#x, %d", w, e)
	}
	if slab, obj, is := count.HeadOf(0); slab != -1 || obj != -1 || !is {
		t.Errorf("HeadOf(0): %d, %d, %v", slab, obj, is)
	}
	if w, e := count.Part(-1, 0); w != 0 || e != api.OK {
		t.Errorf("Part(-1, 0): %#x, %d", w, e)
	}
	if slab, many, is := count.PartOf(0); slab != -1 || many != 0 || !is {
		t.Errorf("PartOf(0): %d, %d, %v", slab, many, is)
	}
}

func TestHeadOf(t *testing.T) { // P17.2: all words that are not far from heads, and these with one bit that differs
	found := 0
	for w := range uint64(1 << 16) {
		if _, is := mustHeadOf(t, w); is {
			found++
		}
	}
	if found != 545 {
		t.Error("heads:", found)
	}
	for w := range uint64(4200) {
		for bit := range 64 {
			mustHeadOf(t, w^1<<bit)
			if slab, obj, is := count.HeadOf(w | 1<<bit); bit >= 12 && (slab != -1 || obj != -1 || is) {
				t.Fatalf("HeadOf(%#x): %d, %d, %v", w|1<<bit, slab, obj, is)
			}
		}
	}
}

func TestPartOf(t *testing.T) { // P17.2: all words that are not far from parts, and these with one bit that differs
	found := 0
	for w := range uint64(1 << 16) {
		if _, is := mustPartOf(t, w); is {
			found++
		}
	}
	if found != 2017 {
		t.Error("parts:", found)
	}
	for w := range uint64(4200) {
		for bit := range 64 {
			mustPartOf(t, w^1<<bit)
			if slab, many, is := count.PartOf(w | 1<<bit); bit >= 12 && (slab != -1 || many != 0 || is) {
				t.Fatalf("PartOf(%#x): %d, %d, %v", w|1<<bit, slab, many, is)
			}
		}
	}
}

func TestAnyWords(t *testing.T) { // P17.1, P17.2: words of few bits, and words without a pattern
	n := noise(17)
	for range 200000 {
		w := n.word()
		mustDecode(t, w)
		mustDecode(t, w>>n.next(64))
		mustDecode(t, w>>46)
		mustDecode(t, w>>51|w<<32)
	}
	for one := range 64 {
		for two := range 64 {
			for three := range 64 {
				mustDecode(t, 1<<one|1<<two|1<<three)
			}
		}
	}
}

// mustBeOwn holds words of their own against P17.3: they are as many as there are things.
func mustBeOwn(t *testing.T, words []uint64, many int) {
	t.Helper()
	own := slices.Compact(slices.Sorted(slices.Values(words)))
	if len(words) != many || len(own) != many {
		t.Errorf("%d have %d words, not %d", len(words), len(own), many)
	}
}

func TestOwnWords(t *testing.T) { // P17.3: by what the package itself tells, all that can be encoded have words of their own, which decode to them
	var counts, heads, parts []uint64
	for _, objects := range ends() {
		for _, inuse := range ends() {
			eachKind(inuse, objects, func(c api.Counts) {
				w, e := count.Pack(c)
				if got, is := count.Counts(w); e == api.OK && (got != c || !is) {
					t.Fatalf("Pack(%+v): %#x, which decodes to %+v, %v", c, w, got, is)
				}
			})
		}
	}
	for objects := -300; objects <= 300; objects++ {
		for inuse := -300; inuse <= 300; inuse++ {
			eachKind(inuse, objects, func(c api.Counts) {
				w, e := count.Pack(c)
				if e != api.OK {
					return
				}
				counts = append(counts, w)
				if got, is := count.Counts(w); got != c || !is {
					t.Fatalf("Pack(%+v): %#x, which decodes to %+v, %v", c, w, got, is)
				}
			})
			if w, e := count.Head(objects, inuse); e == api.OK {
				heads = append(heads, w)
				if slab, obj, is := count.HeadOf(w); slab != objects || obj != inuse || !is {
					t.Fatalf("Head(%d, %d): %#x, which decodes to %d, %d, %v", objects, inuse, w, slab, obj, is)
				}
			}
			if w, e := count.Part(objects, inuse); e == api.OK {
				parts = append(parts, w)
				if slab, many, is := count.PartOf(w); slab != objects || many != inuse || !is {
					t.Fatalf("Part(%d, %d): %#x, which decodes to %d, %d, %v", objects, inuse, w, slab, many, is)
				}
			}
		}
	}
	mustBeOwn(t, counts, 305)
	mustBeOwn(t, heads, 545)
	mustBeOwn(t, parts, 2017)
}

// mustEncode holds a word against P17.3: what it decodes to has just this word.
func mustEncode(t *testing.T, w uint64) {
	t.Helper()
	if c, is := count.Counts(w); is {
		if again, e := count.Pack(c); again != w || e != api.OK {
			t.Fatalf("Counts(%#x): %+v, whose word is %#x, %d", w, c, again, e)
		}
	}
	if slab, obj, is := count.HeadOf(w); is {
		if again, e := count.Head(slab, obj); again != w || e != api.OK {
			t.Fatalf("HeadOf(%#x): %d, %d, whose word is %#x, %d", w, slab, obj, again, e)
		}
	}
	if slab, many, is := count.PartOf(w); is {
		if again, e := count.Part(slab, many); again != w || e != api.OK {
			t.Fatalf("PartOf(%#x): %d, %d, whose word is %#x, %d", w, slab, many, again, e)
		}
	}
}

func TestDecodedIsEncoded(t *testing.T) { // P17.3: by what the package itself tells
	for w := range uint64(1 << 18) {
		mustEncode(t, w)
	}
	for w := range uint64(4200) {
		for bit := range 64 {
			mustEncode(t, w|1<<bit)
		}
	}
	for _, w := range countsBook.words {
		for bit := range 64 {
			mustEncode(t, w^1<<bit)
		}
	}
	for _, w := range farWords() {
		mustEncode(t, w)
	}
	n := noise(3)
	for range 100000 {
		mustEncode(t, n.word())
	}
}

// more is the word of counts of which so many more are in use.
func more(t *testing.T, w uint64, many int) uint64 {
	t.Helper()
	c, is := count.Counts(w)
	if !is {
		t.Fatalf("%#x does not decode", w)
	}
	c.Inuse += many
	w, e := count.Pack(c)
	if e != api.OK {
		t.Fatalf("Pack(%+v): %d", c, e)
	}
	return w
}

func TestTakenAndGivenBack(t *testing.T) { // P17.4: for all counts; the word of all that are in use has one more for each
	pairs := 0
	for _, c := range countsBook.things {
		w, e := count.Pack(c)
		if e != api.OK {
			t.Fatal(c, e)
		}
		if c.Inuse < c.Objects {
			taken := more(t, w, 1)
			if taken == w || taken != w+1 || more(t, taken, -1) != w {
				t.Fatalf("%+v: %#x, %#x when one is taken, %#x when it is given back", c, w, taken, more(t, taken, -1))
			}
			pairs++
		}
		if c.Inuse > 0 && more(t, more(t, w, -1), 1) != w {
			t.Fatalf("%+v: %#x, %#x when one is given back and taken", c, w, more(t, more(t, w, -1), 1))
		}
		if all := more(t, w, c.Objects-c.Inuse); more(t, all, c.Inuse-c.Objects) != w {
			t.Fatalf("%+v: %#x, %#x when all are taken, and not the same when they are given back", c, w, all)
		}
	}
	if pairs != 2*136 {
		t.Error("pairs:", pairs)
	}
}

func TestFrozenIsOneBit(t *testing.T) { // P17.4: and the same one for all counts
	pairs := 0
	for _, c := range countsBook.things {
		if !c.Live || c.Frozen {
			continue
		}
		plain, e := count.Pack(c)
		if e != api.OK {
			t.Fatal(c, e)
		}
		c.Frozen = true
		frozen, e := count.Pack(c)
		if e != api.OK || bits.OnesCount64(plain^frozen) != 1 || plain^frozen != 1<<16 {
			t.Fatalf("%+v: %#x, and %#x if not frozen; %d", c, frozen, plain, e)
		}
		pairs++
	}
	if pairs != 152 {
		t.Error("pairs:", pairs)
	}
}

// call is arguments of all functions.
type call struct {
	counts          api.Counts
	slab, obj, many int
	w               uint64
}

// answers is what calls return.
type answers struct {
	pack, head, part    uint64
	packE, headE, partE api.Errno
	counts              api.Counts
	headOf              head
	partOf              part
	isC, isH, isP       bool
}

// ask makes the calls.
func (c call) ask() answers {
	var a answers
	a.pack, a.packE = count.Pack(c.counts)
	a.head, a.headE = count.Head(c.slab, c.obj)
	a.part, a.partE = count.Part(c.slab, c.many)
	a.counts, a.isC = count.Counts(c.w)
	a.headOf.slab, a.headOf.obj, a.isH = count.HeadOf(c.w)
	a.partOf.slab, a.partOf.many, a.isP = count.PartOf(c.w)
	return a
}

// anyCalls are calls of which many are refused, and many not.
func anyCalls() []call {
	n := noise(2)
	var calls []call
	for range 20000 {
		c := call{api.Counts{Inuse: n.next(19) - 1, Objects: n.next(19) - 1, Frozen: n.next(2) == 0, Live: n.next(4) > 0}, n.next(35) - 2, n.next(19) - 2, n.next(66) - 1, n.word() >> 52}
		if n.next(2) == 0 {
			c.w = countsBook.words[countsBook.things[n.next(305)]] ^ uint64(n.next(3))<<n.next(64)
		}
		calls = append(calls, c)
	}
	return calls
}

func TestSameAnswers(t *testing.T) { // R2: forwards, backwards, and from several goroutines
	calls := anyCalls()
	first := make([]answers, len(calls))
	refused, decoded := 0, 0
	for at, c := range calls {
		first[at] = c.ask()
		if first[at].packE != api.OK {
			refused++
		}
		if first[at].isC {
			decoded++
		}
	}
	if min(refused, decoded, len(calls)-refused, len(calls)-decoded) < 2000 {
		t.Error("calls, refused, decoded:", len(calls), refused, decoded)
	}
	for at, c := range slices.Backward(calls) {
		if got := c.ask(); got != first[at] {
			t.Fatalf("%+v: %+v, not %+v", c, got, first[at])
		}
	}
	var others sync.WaitGroup
	for range 4 {
		others.Go(func() {
			for at, c := range calls {
				if got := c.ask(); got != first[at] {
					t.Errorf("%+v: %+v, not %+v", c, got, first[at])
					return
				}
			}
		})
	}
	others.Wait()
}

// The words of a slab in a memory: what it has of free objects, its counts, and behind them a link for each object.
const (
	headAt = iota
	countsAt
	linksAt
)

// load is a word of a memory.
func load(t *testing.T, m *mem.Mem, at int) uint64 {
	t.Helper()
	w, e := m.Load(at)
	if e != api.OK {
		t.Fatal(e)
	}
	return w
}

// swap replaces the first object and the counts of slab 31 at once.
func swap(t *testing.T, m *mem.Mem, obj, more int) {
	t.Helper()
	head, counts := load(t, m, headAt), load(t, m, countsAt)
	c, is := count.Counts(counts)
	if !is {
		t.Fatalf("%#x does not decode", counts)
	}
	c.Inuse += more
	c.Frozen = !c.Frozen
	to, e := count.Head(31, obj)
	if e != api.OK {
		t.Fatal(e)
	}
	w, e := count.Pack(c)
	if e != api.OK {
		t.Fatal(e)
	}
	if done, e := m.Cas2(headAt, head, counts, to, w); !done || e != api.OK {
		t.Fatal(done, e)
	}
}

// newSlab is a memory of a slab whose objects are all free.
func newSlab(t *testing.T, l api.Layout, key uint64) *mem.Mem {
	t.Helper()
	m, e := mem.New(linksAt + l.Objects)
	if e != api.OK {
		t.Fatal(e)
	}
	head, _ := count.Head(31, 0)
	counts, _ := count.Pack(api.Counts{Objects: l.Objects, Live: true})
	links, _ := link.Fresh(l.Objects, key)
	for at, w := range append([]uint64{head, counts}, links...) {
		if e := m.Store(at, w); e != api.OK {
			t.Fatal(e)
		}
	}
	return m
}

func TestSlabsInAMemory(t *testing.T) { // with the layers below: the objects of a slab are taken one by one, and given back, until the words are what they were
	n := noise(4)
	for size := 1; size <= 256; size++ {
		l, e := layout.Of(size, 8, false)
		if e != api.OK {
			t.Fatal(e)
		}
		key := n.word()
		m := newSlab(t, l, key)
		was := m.Words()
		for taken := range l.Objects {
			slab, obj, is := count.HeadOf(load(t, m, headAt))
			if slab != 31 || obj != taken || !is {
				t.Fatalf("%+v: slab %d, object %d, %v, not %d", l, slab, obj, is, taken)
			}
			next, is := link.Show(load(t, m, linksAt+obj), key, obj)
			if !is {
				t.Fatal(obj)
			}
			swap(t, m, next, 1)
		}
		if slab, obj, is := count.HeadOf(load(t, m, headAt)); slab != 31 || obj != -1 || !is {
			t.Fatalf("%+v: slab %d, object %d, %v, not none", l, slab, obj, is)
		}
		if c, is := count.Counts(load(t, m, countsAt)); c.Inuse != l.Objects || c.Objects != l.Objects || !c.Live || !is {
			t.Fatalf("%+v: %+v, %v", l, c, is)
		}
		for obj := l.Objects - 1; obj >= 0; obj-- {
			swap(t, m, obj, -1)
		}
		if !slices.Equal(m.Words(), was) {
			t.Fatalf("%+v: %x, not %x", l, m.Words(), was)
		}
	}
}
