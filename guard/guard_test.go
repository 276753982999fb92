package guard_test

import (
	"bytes"
	"encoding/hex"
	"math"
	"slices"
	"strings"
	"sync"
	"testing"

	"wainscot/api"
	"wainscot/guard"
	"wainscot/layout"
)

// The tests hold the package against the chapter said a second time, in another way: an object is a text of two hexadecimal digits a byte, with ".." where anything may stand; which byte is the first wrong one is found by going through all of them from the last one to the first. The properties P18.5 and P18.6 are held against what the package itself tells, without the texts.

// side is the text of 8 bytes before or after an object.
func side(digits string) string {
	return digits + digits + digits + digits + digits + digits + digits + digits
}

// freeText is a free object of a size.
func freeText(size int) string {
	return side("bb") + strings.Repeat("6b", size-1) + "a5" + side("bb")
}

// outText is an allocated object of a size whose own bytes are something, or anything.
func outText(size int, own string) string {
	return side("cc") + strings.Repeat(own, size) + side("cc")
}

// made is the bytes of a text.
func made(text string) []byte {
	b, err := hex.DecodeString(text)
	if err != nil {
		panic(err)
	}
	return b
}

// isSize tells whether an object may have so many bytes of its own.
func isSize(size int) bool {
	return size > 0 && size < 1025
}

// wantLay is what Lay has to return.
func wantLay(size int) ([]byte, api.Errno) {
	if !isSize(size) {
		return nil, api.ErrArg
	}
	return made(freeText(size)), api.OK
}

// wantCheck is what Check has to return.
func wantCheck(b []byte, out bool) (at int, e api.Errno) {
	size := len(b) - 16
	if !isSize(size) {
		return 0, api.ErrArg
	}
	text := freeText(size)
	if out {
		text = outText(size, "..")
	}
	for i := range slices.Backward(b) {
		if want := text[2*i : 2*i+2]; want != ".." && want != hex.EncodeToString(b[i:i+1]) {
			at, e = i, api.ErrGuard
		}
	}
	return at, e
}

// wantOut is what Out has to return.
func wantOut(b []byte) ([]byte, api.Errno) {
	if _, e := wantCheck(b, false); e != api.OK {
		return nil, e
	}
	return made(outText(len(b)-16, "5a")), api.OK
}

// wantBack is what Back has to return.
func wantBack(b []byte) ([]byte, api.Errno) {
	if _, e := wantCheck(b, true); e != api.OK {
		return nil, e
	}
	return made(freeText(len(b) - 16)), api.OK
}

// room is how many bytes are on both sides of those that a test lends to the program, which may touch none of them.
const room = 24

// lent is bytes that a test lends, with the room about them; those behind them are unused capacity.
type lent struct{ all, was []byte }

// lend is a copy of bytes, to be lent.
func lend(b []byte) lent {
	all := slices.Concat(bytes.Repeat([]byte{0xbb}, room), b, bytes.Repeat([]byte{0xcc}, room))
	return lent{all: all, was: slices.Clone(all)}
}

// list is what is handed over.
func (a lent) list() []byte { return a.all[room : len(a.all)-room] }

// mustStay holds the bytes and their room against what they were.
func (a lent) mustStay(t *testing.T, call string) {
	t.Helper()
	if !bytes.Equal(a.all, a.was) {
		t.Fatalf("%s of %x: they are %x now", call, a.was, a.all)
	}
}

// spoil writes all over the memory of a list, its unused capacity included.
func spoil(l []byte) {
	l = l[:cap(l)]
	for i := range l {
		l[i] ^= 0xff
	}
}

// mustLay holds a Lay against the model; what is written into its result is in no other one.
func mustLay(t *testing.T, size int) ([]byte, api.Errno) {
	t.Helper()
	want, wantE := wantLay(size)
	for range 2 {
		got, e := guard.Lay(size)
		if !bytes.Equal(got, want) || e != wantE {
			t.Fatalf("Lay(%d): %x, %d, not %x, %d", size, got, e, want, wantE)
		}
		spoil(got)
	}
	return want, wantE
}

// mustCheck holds a Check against the model, and its argument against P18.4.
func mustCheck(t *testing.T, b []byte, out bool) (int, api.Errno) {
	t.Helper()
	a := lend(b)
	at, e := guard.Check(a.list(), out)
	if want, wantE := wantCheck(b, out); at != want || e != wantE {
		t.Fatalf("Check(%x, %v): %d, %d, not %d, %d", b, out, at, e, want, wantE)
	}
	a.mustStay(t, "Check")
	return at, e
}

// turn is an Out or a Back, and what it has to return.
type turn struct {
	name      string
	turn, can func(b []byte) ([]byte, api.Errno)
}

// turns are both.
func turns() []turn {
	return []turn{{"Out", guard.Out, wantOut}, {"Back", guard.Back, wantBack}}
}

// must holds an Out or a Back against the model, and the memory of its argument and its result against P18.4.
func (c turn) must(t *testing.T, b []byte) ([]byte, api.Errno) {
	t.Helper()
	want, wantE := c.can(b)
	a := lend(b)
	for range 2 {
		got, e := c.turn(a.list())
		if !bytes.Equal(got, want) || e != wantE {
			t.Fatalf("%s(%x): %x, %d, not %x, %d", c.name, b, got, e, want, wantE)
		}
		a.mustStay(t, c.name)
		spoil(got)
		a.mustStay(t, "writing into the result of "+c.name)
	}
	return want, wantE
}

// mustAll holds all that looks at bytes against the model.
func mustAll(t *testing.T, b []byte) {
	t.Helper()
	mustCheck(t, b, false)
	mustCheck(t, b, true)
	for _, c := range turns() {
		c.must(t, b)
	}
}

// mustBeWrong holds bytes that are wrong at an index, for an allocated object (out) or a free one, against ErrGuard.
func mustBeWrong(t *testing.T, b []byte, out bool, want int) {
	t.Helper()
	if at, e := guard.Check(b, out); at != want || e != api.ErrGuard {
		t.Fatalf("Check(%x, %v): %d, %d, not %d, ErrGuard", b, out, at, e, want)
	}
	turn, name := guard.Out, "Out"
	if out {
		turn, name = guard.Back, "Back"
	}
	if got, e := turn(b); len(got) != 0 || e != api.ErrGuard {
		t.Fatalf("%s(%x): %x, %d, not ErrGuard", name, b, got, e)
	}
}

// mustBeRight holds bytes that are an allocated object (out), or a free one, against OK.
func mustBeRight(t *testing.T, b []byte, out bool) {
	t.Helper()
	if at, e := guard.Check(b, out); at != 0 || e != api.OK {
		t.Fatalf("Check(%x, %v): %d, %d, not 0, OK", b, out, at, e)
	}
}

// laid is a free object that the package has made.
func laid(t *testing.T, size int) []byte {
	t.Helper()
	b, e := guard.Lay(size)
	if e != api.OK {
		t.Fatalf("Lay(%d): %d", size, e)
	}
	return b
}

// out is an allocated object that the package has made.
func out(t *testing.T, free []byte) []byte {
	t.Helper()
	b, e := guard.Out(free)
	if e != api.OK {
		t.Fatalf("Out(%x): %d", free, e)
	}
	return b
}

// own is the own bytes of an object.
func own(b []byte) []byte {
	return b[guard.Ahead : len(b)-guard.Ahead]
}

// noise gives numbers without a pattern, the same ones each time.
type noise uint64

func (n *noise) next(below int) int {
	*n = *n*6364136223846793005 + 1442695040888963407
	return int(uint64(*n) >> 33 % uint64(below))
}

// fill writes bytes without a pattern.
func (n *noise) fill(b []byte) {
	for i := range b {
		b[i] = byte(n.next(256))
	}
}

// special are the bytes that objects have, and some that they have not.
func special() []byte {
	return []byte{0xbb, 0x6b, 0xa5, 0xcc, 0x5a, 0x00, 0xff}
}

func TestExamples(t *testing.T) { // of the chapter
	two, e := guard.Lay(2)
	if want := made("bbbbbbbbbbbbbbbb" + "6ba5" + "bbbbbbbbbbbbbbbb"); !bytes.Equal(two, want) || e != api.OK {
		t.Errorf("Lay(2): %x, %d", two, e)
	}
	given, e := guard.Out(two)
	if want := made("cccccccccccccccc" + "5a5a" + "cccccccccccccccc"); !bytes.Equal(given, want) || e != api.OK {
		t.Errorf("Out of it: %x, %d", given, e)
	}
	if at, e := guard.Check(two, true); at != 0 || e != api.ErrGuard {
		t.Errorf("Check(Lay(2), true): %d, %d", at, e)
	}
	if at, e := guard.Check(laid(t, 1), false); at != 0 || e != api.OK {
		t.Errorf("Check(Lay(1), false): %d, %d", at, e)
	}
	if at, e := guard.Check(make([]byte, 16), false); at != 0 || e != api.ErrArg {
		t.Errorf("Check of 16 bytes: %d, %d", at, e)
	}
	if guard.Ahead != 8 {
		t.Error("Ahead:", guard.Ahead)
	}
}

func TestWorkedOut(t *testing.T) { // P18.1, P18.3: objects that were written down byte by byte
	for size, c := range map[int]struct{ free, out []byte }{
		1: {
			[]byte{187, 187, 187, 187, 187, 187, 187, 187, 165, 187, 187, 187, 187, 187, 187, 187, 187},
			[]byte{204, 204, 204, 204, 204, 204, 204, 204, 90, 204, 204, 204, 204, 204, 204, 204, 204},
		},
		2: {
			[]byte{187, 187, 187, 187, 187, 187, 187, 187, 107, 165, 187, 187, 187, 187, 187, 187, 187, 187},
			[]byte{204, 204, 204, 204, 204, 204, 204, 204, 90, 90, 204, 204, 204, 204, 204, 204, 204, 204},
		},
		5: {
			[]byte{187, 187, 187, 187, 187, 187, 187, 187, 107, 107, 107, 107, 165, 187, 187, 187, 187, 187, 187, 187, 187},
			[]byte{204, 204, 204, 204, 204, 204, 204, 204, 90, 90, 90, 90, 90, 204, 204, 204, 204, 204, 204, 204, 204},
		},
	} {
		if got, e := guard.Lay(size); !bytes.Equal(got, c.free) || e != api.OK {
			t.Errorf("Lay(%d): %d, %d", size, got, e)
		}
		if got, e := guard.Out(c.free); !bytes.Equal(got, c.out) || e != api.OK {
			t.Errorf("Out(%d): %d, %d", c.free, got, e)
		}
		if got, e := guard.Back(c.out); !bytes.Equal(got, c.free) || e != api.OK {
			t.Errorf("Back(%d): %d, %d", c.out, got, e)
		}
		mustBeRight(t, c.free, false)
		mustBeRight(t, c.out, true)
	}
}

func TestLay(t *testing.T) { // P18.1: all sizes, and what is near them
	seen := map[api.Errno]int{}
	for size := -100; size <= 1200; size++ {
		_, e := mustLay(t, size)
		seen[e]++
	}
	if len(seen) != 2 || seen[api.OK] != 1024 {
		t.Error("objects, and what is none:", seen)
	}
}

func TestLayOfNoSize(t *testing.T) { // P18.1: beside ErrArg there is no object
	for _, size := range []int{math.MinInt, math.MinInt + 1, math.MinInt + 17, math.MinInt32, -1 << 32, -1<<32 + 1, -65535, -1024, -1023, -257, -256, -255, -17, -16, -15, -8, -2, -1, 0,
		1025, 1026, 1039, 1040, 1041, 2048, 4096, 1 << 16, 1<<16 + 1, 1 << 20, math.MaxInt32, 1 << 32, 1<<32 + 1, 1<<32 + 1024, 1 << 62, math.MaxInt - 17, math.MaxInt - 16, math.MaxInt - 15, math.MaxInt - 8, math.MaxInt - 1, math.MaxInt} {
		if got, e := mustLay(t, size); len(got) != 0 || e != api.ErrArg {
			t.Errorf("Lay(%d): %x, %d, not ErrArg", size, got, e)
		}
	}
	for _, size := range []int{1, 2, 1023, 1024} {
		if got, e := mustLay(t, size); len(got) != size+16 || e != api.OK {
			t.Errorf("Lay(%d): %x, %d, not OK", size, got, e)
		}
	}
}

// fillings are bytes of so many, some of which are an object if any are.
func fillings(many int) [][]byte {
	l := [][]byte{make([]byte, many)}
	for _, b := range special() {
		l = append(l, bytes.Repeat([]byte{b}, many))
	}
	if size := many - 16; size > 0 {
		l = append(l, made(freeText(size)), made(outText(size, "5a")), made(outText(size, "00")))
	}
	return l
}

func TestLengths(t *testing.T) { // P18.2, P18.3: lists of every length up to more than an object has, and longer ones
	lengths := []int{2047, 2048, 1<<16 - 1, 1 << 16, 1<<16 + 17}
	for many := range 1100 {
		lengths = append(lengths, many)
	}
	right := 0
	for _, many := range lengths {
		for _, b := range fillings(many) {
			mustAll(t, b)
			if _, e := guard.Check(b, true); e == api.OK {
				right++
			}
		}
	}
	if right != 3*1024 { // all 0xcc, 0x5a and 0x00 within
		t.Error("allocated objects:", right)
	}
}

func TestNoObjects(t *testing.T) { // P18.2, P18.3: too few bytes, and too many; beside ErrArg there is neither an index nor an object
	lists := [][]byte{nil, {}, made(side("bb")), made(side("cc")), make([]byte, 0, 100)}
	for _, many := range []int{1, 2, 7, 8, 9, 15, 16, 1041, 1042, 1 << 16} {
		lists = append(lists, fillings(many)...)
	}
	for _, b := range lists {
		for _, isOut := range []bool{false, true} {
			if at, e := guard.Check(b, isOut); at != 0 || e != api.ErrArg {
				t.Errorf("Check(%x, %v): %d, %d, not ErrArg", b, isOut, at, e)
			}
		}
		for _, c := range turns() {
			if got, e := c.turn(b); len(got) != 0 || e != api.ErrArg {
				t.Errorf("%s(%x): %x, %d, not ErrArg", c.name, b, got, e)
			}
		}
	}
}

func TestEdgesOfLengths(t *testing.T) { // P18.2, P18.3: the shortest and the longest objects
	for _, many := range []int{17, 18, 19, 1039, 1040} {
		free, given := made(freeText(many-16)), made(outText(many-16, "5a"))
		mustBeRight(t, free, false)
		mustBeRight(t, given, true)
		mustBeWrong(t, given, false, 0)
		mustBeWrong(t, free, true, 0)
		if got, e := guard.Out(free); !bytes.Equal(got, given) || e != api.OK {
			t.Errorf("Out(%x): %x, %d", free, got, e)
		}
		if got, e := guard.Back(given); !bytes.Equal(got, free) || e != api.OK {
			t.Errorf("Back(%x): %x, %d", given, got, e)
		}
	}
}

// isInside tells whether a byte of an object is one of its own.
func isInside(i, size int) bool {
	return i > 7 && i < size+8
}

// mustBeChanged changes a byte of a free and of an allocated object to another value: while it is free, that is wrong; while it is allocated, only around it.
func mustBeChanged(t *testing.T, size, i int, flip byte) {
	t.Helper()
	free, given := made(freeText(size)), made(outText(size, "5a"))
	free[i] ^= flip
	given[i] ^= flip
	mustBeWrong(t, free, false, i)
	if isInside(i, size) {
		mustBeRight(t, given, true)
	} else {
		mustBeWrong(t, given, true, i)
	}
}

func TestOneWrongByte(t *testing.T) { // P18.2, P18.3: each byte of objects of few bytes, with each other value
	for size := 1; size <= 5; size++ {
		for i := range size + 16 {
			for flip := 1; flip < 256; flip++ {
				mustBeChanged(t, size, i, byte(flip))
				free, given := made(freeText(size)), made(outText(size, "5a"))
				free[i] ^= byte(flip)
				given[i] ^= byte(flip)
				mustAll(t, free)
				mustAll(t, given)
			}
		}
	}
}

func TestOneWrongByteOfMany(t *testing.T) { // P18.2, P18.3: each byte of longer objects, with few other values
	for _, size := range []int{6, 7, 8, 9, 15, 16, 17, 31, 64, 100, 255, 256, 257, 511, 512, 1000, 1022, 1023, 1024} {
		for i := range size + 16 {
			for bit := range 8 {
				mustBeChanged(t, size, i, 1<<bit)
			}
			mustBeChanged(t, size, i, 0xff)
		}
	}
}

func TestSpecialBytes(t *testing.T) { // P18.2, P18.3: at each place the bytes that are right at another one, or while an object is in the other state
	for size := 1; size <= 40; size++ {
		for i := range size + 16 {
			for _, b := range special() {
				free, given := made(freeText(size)), made(outText(size, "5a"))
				free[i], given[i] = b, b
				mustAll(t, free)
				mustAll(t, given)
			}
		}
	}
}

func TestTheLastByte(t *testing.T) { // P18.2: of a free object: 0x6b is wrong there, and 0xa5 at each other place
	for _, size := range []int{1, 2, 3, 4, 100, 1023, 1024} {
		last := size + 7
		free := made(freeText(size))
		free[last] = 0x6b
		mustBeWrong(t, free, false, last)
		for i := range size + 16 {
			free := made(freeText(size))
			free[i] = 0xa5
			if i == last {
				mustBeRight(t, free, false)
			} else {
				mustBeWrong(t, free, false, i)
			}
		}
		all := made(freeText(size))
		copy(own(all), bytes.Repeat([]byte{0xa5}, size))
		if size == 1 { // its only byte is the last one
			mustBeRight(t, all, false)
		} else {
			mustBeWrong(t, all, false, 8)
		}
	}
}

func TestTheFirstWrongByte(t *testing.T) { // P18.2: of two wrong ones the first is told, the own bytes of an allocated object left aside
	for size := 1; size <= 12; size++ {
		for one := range size + 16 {
			for two := range one {
				for _, flip := range []byte{1, 0x80, 0x77} {
					free, given := made(freeText(size)), made(outText(size, "5a"))
					free[one] ^= flip
					free[two] ^= 0x10
					given[one] ^= flip
					given[two] ^= 0x10
					mustBeWrong(t, free, false, two)
					mustCheck(t, given, true)
					if !isInside(two, size) {
						mustBeWrong(t, given, true, two)
					} else if !isInside(one, size) {
						mustBeWrong(t, given, true, one)
					}
				}
			}
		}
	}
}

func TestManyWrongBytes(t *testing.T) { // P18.2, P18.3: any number of them, at any places
	n := noise(18)
	seen := map[api.Errno]int{}
	for range 6000 {
		size := 1 + n.next(1024)
		if n.next(2) == 0 {
			size = 1 + n.next(20)
		}
		b := made(freeText(size))
		isOut := n.next(2) == 0
		if isOut {
			b = made(outText(size, "5a"))
			n.fill(own(b))
		}
		for range n.next(5) {
			b[n.next(len(b))] = special()[n.next(len(special()))]
		}
		mustAll(t, b)
		_, e := guard.Check(b, isOut)
		seen[e]++
	}
	if len(seen) != 2 || seen[api.OK] < 1000 || seen[api.ErrGuard] < 1000 {
		t.Error("errors:", seen)
	}
}

func TestAllWrongFromAByteOn(t *testing.T) { // P18.2: nothing behind the first wrong byte counts
	for _, size := range []int{1, 2, 3, 10, 1024} {
		for i := range size + 16 {
			free, given := made(freeText(size)), made(outText(size, "5a"))
			for behind := i; behind < size+16; behind++ {
				free[behind], given[behind] = 0x77, 0x77
			}
			mustBeWrong(t, free, false, i)
			if isInside(i, size) {
				mustBeWrong(t, given, true, size+8)
			} else {
				mustBeWrong(t, given, true, i)
			}
		}
	}
}

func TestAnyOwnBytes(t *testing.T) { // P18.2, P18.3: those of an allocated object are arbitrary
	for one := range 256 {
		mustBeBackOf(t, []byte{byte(one)})
		for two := range 256 {
			mustBeBackOf(t, []byte{byte(one), byte(two)})
		}
	}
	n := noise(2)
	for size := 1; size <= 1024; size++ {
		inside := make([]byte, size)
		n.fill(inside)
		mustBeBackOf(t, inside)
		for _, b := range special() {
			mustBeBackOf(t, bytes.Repeat([]byte{b}, size))
		}
	}
}

// mustBeBackOf holds the allocated object with some own bytes against what is right, and what is written between 0xcc is nothing to Back.
func mustBeBackOf(t *testing.T, inside []byte) {
	t.Helper()
	given := slices.Concat(made(side("cc")), inside, made(side("cc")))
	mustBeRight(t, given, true)
	if got, e := guard.Back(given); !bytes.Equal(got, made(freeText(len(inside)))) || e != api.OK {
		t.Fatalf("Back(%x): %x, %d", given, got, e)
	}
}

func TestOnlyTheRightSides(t *testing.T) { // P18.2, P18.3, P18.6: sides of one byte each, with some own bytes between them; no such object is both
	bothSides := 0
	for _, before := range special() {
		for _, after := range special() {
			for _, first := range special() {
				for _, last := range special() {
					b := slices.Concat(bytes.Repeat([]byte{before}, 8), []byte{first, last}, bytes.Repeat([]byte{after}, 8))
					mustAll(t, b)
					mustAll(t, append(b[:9:9], b[10:]...)) // of one byte
					_, free := guard.Check(b, false)
					_, given := guard.Check(b, true)
					if free == api.OK && given == api.OK {
						t.Fatalf("%x is free and allocated", b)
					}
					if free == api.OK || given == api.OK {
						bothSides++
					}
				}
			}
		}
	}
	if bothSides != 1+7*7 {
		t.Error("objects:", bothSides)
	}
}

func TestTheOtherState(t *testing.T) { // P18.2, P18.3, P18.6: a free object given to Back, an allocated one to Out, each checked as the other
	for size := 1; size <= 1024; size++ {
		free := made(freeText(size))
		mustBeWrong(t, free, true, 0)
		mustBeWrong(t, made(outText(size, "5a")), false, 0)
		inside := slices.Concat(made(side("cc")), own(free), made(side("cc")))
		mustBeRight(t, inside, true)
		mustBeWrong(t, inside, false, 0)
		half := slices.Concat(free[:size+8], made(side("cc")))
		mustBeWrong(t, half, false, size+8)
		mustBeWrong(t, half, true, 0)
		half = slices.Concat(made(side("cc")), free[8:])
		mustBeWrong(t, half, false, 0)
		mustBeWrong(t, half, true, size+8)
	}
}

// uses are what the user of an allocated object may write into its own bytes.
func uses(n *noise) []func(b []byte) {
	return []func(b []byte){
		func(b []byte) {},
		func(b []byte) { clear(b) },
		func(b []byte) { n.fill(b) },
		func(b []byte) { b[0] = 0xbb },
		func(b []byte) { b[len(b)-1] = 0xcc },
		func(b []byte) { b[n.next(len(b))] ^= byte(1 + n.next(255)) },
		func(b []byte) { copy(b, bytes.Repeat([]byte{0xff}, len(b))) },
		func(b []byte) { copy(b, made(freeText(len(b)))[8:]) },
		func(b []byte) { copy(b, made(freeText(len(b)))) },
	}
}

func TestOutAndBack(t *testing.T) { // P18.5: for all sizes, by what the package itself tells
	n := noise(5)
	for size := 1; size <= 1024; size++ {
		free := laid(t, size)
		if len(free) != size+2*guard.Ahead {
			t.Fatalf("Lay(%d) has %d bytes", size, len(free))
		}
		was := slices.Clone(free)
		b := free
		for _, use := range uses(&n) {
			mustBeRight(t, b, false)
			given := out(t, b)
			mustBeRight(t, given, true)
			use(own(given))
			mustBeRight(t, given, true)
			back, e := guard.Back(given)
			if !bytes.Equal(back, was) || e != api.OK {
				t.Fatalf("Back(%x): %x, %d, not %x", given, back, e, was)
			}
			b = back
		}
		if !bytes.Equal(free, was) {
			t.Fatalf("Lay(%d) is %x now", size, free)
		}
	}
}

func TestWritesAreFound(t *testing.T) { // P18.5: before and after an allocated object, and anywhere in a free one, for all sizes, by what the package itself tells
	n := noise(6)
	for size := 1; size <= 1024; size++ {
		free := laid(t, size)
		given := out(t, free)
		n.fill(own(given))
		for i := range free {
			if i > 40 && i < len(free)-40 && n.next(8) > 0 {
				continue // one of some in the midst of long ones
			}
			flip := byte(1 + n.next(255))
			free[i] ^= flip
			mustBeWrong(t, free, false, i)
			free[i] ^= flip
			given[i] ^= flip
			if isInside(i, size) {
				mustBeRight(t, given, true)
			} else {
				mustBeWrong(t, given, true, i)
			}
			given[i] ^= flip
		}
		mustBeRight(t, free, false)
		mustBeRight(t, given, true)
	}
}

func TestFreeOrAllocated(t *testing.T) { // P18.6: for all sizes, by what the package itself tells
	n := noise(7)
	for size := 1; size <= 1024; size++ {
		free := laid(t, size)
		mustBeWrong(t, free, true, 0)
		for _, use := range uses(&n) {
			given := out(t, free)
			use(own(given))
			mustBeWrong(t, given, false, 0)
		}
	}
}

func TestResultsAreNewMemory(t *testing.T) { // P18.4: writing over a result, or behind it, changes nothing else
	for _, size := range []int{1, 2, 3, 16, 48, 1023, 1024} {
		var results [][]byte
		var want []string
		enter := func(b []byte, text string) {
			results, want = append(results, b), append(want, text)
		}
		free := laid(t, size)
		given := out(t, free)
		for range 4 {
			enter(laid(t, size), freeText(size))
			enter(out(t, free), outText(size, "5a"))
			back, e := guard.Back(given)
			if e != api.OK {
				t.Fatal(e)
			}
			enter(back, freeText(size))
		}
		for at, l := range results {
			spoil(append(l, 1, 2, 3))
			spoil(l)
			for other := at + 1; other < len(results); other++ {
				if hex.EncodeToString(results[other]) != want[other] {
					t.Fatalf("size %d: result %d is %x behind writing into %d", size, other, results[other], at)
				}
			}
			if hex.EncodeToString(free) != freeText(size) || hex.EncodeToString(given) != outText(size, "5a") {
				t.Fatalf("size %d: arguments are %x, %x behind writing into %d", size, free, given, at)
			}
		}
		mustLay(t, size)
		mustAll(t, free)
		mustAll(t, given)
	}
}

func TestArgumentsAreNotKept(t *testing.T) { // P18.4: nothing comes of what is written into bytes behind a call
	for _, size := range []int{1, 2, 16, 48, 1024} {
		free := made(freeText(size))
		given := out(t, free)
		clear(free)
		if hex.EncodeToString(given) != outText(size, "5a") {
			t.Fatalf("size %d: %x behind writing into the argument of Out", size, given)
		}
		back, e := guard.Back(given)
		clear(given)
		if hex.EncodeToString(back) != freeText(size) || e != api.OK {
			t.Fatalf("size %d: %x, %d behind writing into the argument of Back", size, back, e)
		}
		mustBeWrong(t, free, false, 0)
		mustBeWrong(t, given, true, 0)
	}
}

func TestArgumentsShareMemory(t *testing.T) { // P18.4: objects that overlap in an array, of which only what is handed over counts
	array := slices.Concat(made(freeText(3)), made(outText(3, "5a")), made(freeText(1)))
	was := slices.Clone(array)
	for from := range array {
		for to := from; to <= len(array); to++ {
			at, e := guard.Check(array[from:to], false)
			if want, wantE := wantCheck(array[from:to], false); at != want || e != wantE {
				t.Fatalf("Check(%x, false): %d, %d, not %d, %d", array[from:to], at, e, want, wantE)
			}
			at, e = guard.Check(array[from:to], true)
			if want, wantE := wantCheck(array[from:to], true); at != want || e != wantE {
				t.Fatalf("Check(%x, true): %d, %d, not %d, %d", array[from:to], at, e, want, wantE)
			}
			for _, c := range turns() {
				got, e := c.turn(array[from:to])
				if want, wantE := c.can(array[from:to]); !bytes.Equal(got, want) || e != wantE {
					t.Fatalf("%s(%x): %x, %d, not %x, %d", c.name, array[from:to], got, e, want, wantE)
				}
			}
		}
	}
	if !bytes.Equal(array, was) {
		t.Errorf("%x, not %x", array, was)
	}
}

// left is the panic that leaves calls.
func left(calls func()) (panicked any) {
	defer func() { panicked = recover() }()
	calls()
	return nil
}

// callAll makes all calls for bytes, and tells whether any of them met a wrong byte.
func callAll(b []byte) bool {
	_, one := guard.Check(b, false)
	_, two := guard.Check(b, true)
	_, three := guard.Out(b)
	_, four := guard.Back(b)
	return slices.Contains([]api.Errno{one, two, three, four}, api.ErrGuard)
}

func TestNoPanicLeaves(t *testing.T) { // R1: neither from a call nor behind one
	lists := [][]byte{nil, {}}
	for many := range 1100 {
		lists = append(lists, fillings(many)...)
	}
	met := 0
	for _, b := range lists {
		if p := left(func() {
			if callAll(b) {
				met++
			}
			if p := recover(); p != nil {
				t.Errorf("%x: %v is left behind the calls", b, p)
			}
		}); p != nil {
			t.Errorf("%x: panic %v", b, p)
		}
	}
	if met < 1024 {
		t.Error("wrong bytes met:", met)
	}
	for _, size := range []int{math.MinInt, -1, 0, 1, 1024, 1025, math.MaxInt} {
		if p := left(func() { guard.Lay(size) }); p != nil {
			t.Errorf("Lay(%d): panic %v", size, p)
		}
	}
}

func TestPanicOfACaller(t *testing.T) { // R1, R2: calls while a panic of the caller goes on answer the same, and it goes on behind them
	for _, b := range [][]byte{nil, made(freeText(1)), made(freeText(9)), made(outText(9, "5a")), make([]byte, 30), make([]byte, 2000)} {
		p := left(func() {
			defer mustAll(t, b)
			defer mustLay(t, len(b))
			panic("of the caller")
		})
		if p != "of the caller" {
			t.Errorf("%x: %v is left of it", b, p)
		}
	}
}

// answers is what calls return.
type answers struct {
	lay, out, back    string
	layE, outE, backE api.Errno
	freeAt, givenAt   int
	freeE, givenE     api.Errno
}

// ask makes all calls.
func ask(size int, b []byte) answers {
	lay, layE := guard.Lay(size)
	given, outE := guard.Out(b)
	back, backE := guard.Back(b)
	a := answers{lay: string(lay), out: string(given), back: string(back), layE: layE, outE: outE, backE: backE}
	a.freeAt, a.freeE = guard.Check(b, false)
	a.givenAt, a.givenE = guard.Check(b, true)
	return a
}

func TestSameAnswers(t *testing.T) { // R2: forwards, backwards, and from several goroutines
	n := noise(9)
	var lists [][]byte
	for range 2000 {
		lists = append(lists, fillings(n.next(60))...)
	}
	for _, b := range lists {
		if len(b) > 0 && n.next(2) == 0 {
			b[n.next(len(b))] ^= 1
		}
	}
	first := make([]answers, len(lists))
	for at, b := range lists {
		first[at] = ask(len(b), b)
	}
	for at, b := range slices.Backward(lists) {
		if got := ask(len(b), b); got != first[at] {
			t.Fatalf("%x: %+v, not %+v", b, got, first[at])
		}
	}
	var others sync.WaitGroup
	for range 4 {
		others.Go(func() {
			for at, b := range lists {
				if got := ask(len(b), b); got != first[at] {
					t.Errorf("%x: %+v, not %+v", b, got, first[at])
					return
				}
			}
		})
	}
	others.Wait()
}

// place is the bytes of an object in a slab, with those around it.
func place(t *testing.T, slab []byte, l api.Layout, object int) []byte {
	t.Helper()
	at, e := layout.At(l, object)
	if e != api.OK {
		t.Fatal(l, object, e)
	}
	return slab[at-guard.Ahead : at+l.Size+guard.Ahead]
}

func TestObjectsInASlab(t *testing.T) { // with the layers below: what is written too far from one object of a slab is found there, and nowhere else
	for size := 1; size <= 1024; size++ {
		for _, align := range []int{1, 8, 64} {
			l, e := layout.Of(size, align, true)
			if e != api.OK {
				t.Fatal(size, align, e)
			}
			slab := make([]byte, api.PageBytes<<l.Order)
			for object := range l.Objects {
				copy(place(t, slab, l, object), laid(t, size))
			}
			for object := range l.Objects {
				b := place(t, slab, l, object)
				mustBeRight(t, b, false)
				copy(b, out(t, b))
				clear(own(b))
			}
			wrong := size % l.Objects
			place(t, slab, l, wrong)[guard.Ahead+size] = 0
			for object := range l.Objects {
				b := place(t, slab, l, object)
				if object == wrong {
					mustBeWrong(t, b, true, guard.Ahead+size)
					continue
				}
				if got, e := guard.Back(b); !bytes.Equal(got, laid(t, size)) || e != api.OK {
					t.Fatalf("Back(%x): %x, %d", b, got, e)
				}
			}
		}
	}
}
