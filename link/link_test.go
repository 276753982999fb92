package link_test

import (
	"math"
	"math/bits"
	"slices"
	"strconv"
	"strings"
	"sync"
	"testing"

	"wainscot/api"
	"wainscot/layout"
	"wainscot/link"
	"wainscot/mem"
)

// The tests hold the package against the chapter said a second time, in another way: a word is a text of 64 binary digits, which is turned, added to and combined digit by digit; what a link decodes to is looked up among all links that may be at an object; and a list is followed as far as there are links, without a look at the objects before, and runs in a circle if it has not ended then. The properties P16.5 and P16.6 are held against what the package itself tells, without the model.

// multiplier is what is added to a key for each object.
const multiplier = 2654435769

// digits are those of a word, the greatest one first.
func digits(w uint64) string {
	text := strconv.FormatUint(w, 2)
	return strings.Repeat("0", 64-len(text)) + text
}

// word is the one that digits are.
func word(digits string) uint64 {
	var w uint64
	for _, digit := range digits {
		w *= 2
		if digit == '1' {
			w++
		}
	}
	return w
}

// turned is digits of which so many have gone from the front to the end, one by one.
func turned(digits string, many int) string {
	for range many {
		digits = digits[1:] + digits[:1]
	}
	return digits
}

// sum is that of two words, without the digit that is one too many.
func sum(a, b string) string {
	both, carry := make([]byte, 64), byte(0)
	for at := 63; at >= 0; at-- {
		here := a[at] - '0' + b[at] - '0' + carry
		both[at], carry = '0'+here%2, here/2
	}
	return string(both)
}

// combined has a 1 where just one of two words has one.
func combined(a, b string) string {
	both := make([]byte, 64)
	for at := range both {
		both[at] = '0'
		if a[at] != b[at] {
			both[at] = '1'
		}
	}
	return string(both)
}

// place is an object and a key.
type place struct {
	key uint64
	at  int
}

// drawn are derived keys, which are slow to reckon.
var drawn = map[place]string{}

// derivedKey is that of an object.
func derivedKey(key uint64, at int) string {
	p := place{key, at}
	if _, is := drawn[p]; !is {
		derived := turned(digits(key), 5*at)
		for range at {
			derived = sum(derived, digits(multiplier))
		}
		drawn[p] = derived
	}
	return drawn[p]
}

// veiled is the word that becomes a number when it is combined with the derived key.
func veiled(plain, key uint64, at int) uint64 {
	return word(combined(digits(plain), derivedKey(key, at)))
}

// listed are all links that may be at an object.
var listed = map[place][]uint64{}

// links are all that may be at an object: to none, to object 0, to 1 ..
func links(key uint64, at int) []uint64 {
	p := place{key, at}
	if _, is := listed[p]; !is {
		var l []uint64
		for n := range uint64(17) {
			l = append(l, veiled(n, key, at))
		}
		listed[p] = l
	}
	return listed[p]
}

// isBetween tells whether a number is one of those from one to another.
func isBetween(n, from, to int) bool {
	return !(n < from || to < n)
}

// wantHide is what Hide has to return.
func wantHide(next int, key uint64, at int) (uint64, api.Errno) {
	if !isBetween(next, -1, 15) || !isBetween(at, 0, 15) {
		return 0, api.ErrArg
	}
	return links(key, at)[1+next], api.OK
}

// wantShow is what Show has to return.
func wantShow(w, key uint64, at int) (int, bool) {
	if !isBetween(at, 0, 15) {
		return 0, false
	}
	n := slices.Index(links(key, at), w)
	if n < 0 {
		return 0, false
	}
	return n - 1, true
}

// wantList is what List has to return.
func wantList(l []uint64, key uint64, first int) ([]int, api.Errno) {
	if len(l) >= 17 || !isBetween(first, -1, len(l)-1) {
		return nil, api.ErrArg
	}
	var objects []int
	at, is := first, true
	for range len(l) {
		if at == -1 {
			break
		}
		objects = append(objects, at)
		at, is = wantShow(l[at], key, at)
		if !is || !isBetween(at, -1, len(l)-1) {
			return nil, api.ErrSlab
		}
	}
	if at != -1 {
		return nil, api.ErrSlab
	}
	return objects, api.OK
}

// wantFresh is what Fresh has to return.
func wantFresh(n int, key uint64) ([]uint64, api.Errno) {
	if !isBetween(n, 1, 16) {
		return nil, api.ErrArg
	}
	var l []uint64
	for at := range n {
		l = append(l, links(key, at)[(at+2)%(n+1)])
	}
	return l, api.OK
}

// lent is words that a test hands to the program: behind their end is room, with words that nobody may touch.
type lent struct {
	all  []uint64 // with the room
	many int
	was  []uint64
}

// lend is words with room behind them.
func lend(l []uint64) lent {
	all := append(slices.Clone(l), 71, 72, 73)
	return lent{all, len(l), slices.Clone(all)}
}

// list is what is handed over.
func (a lent) list() []uint64 { return a.all[:a.many] }

// mustStay holds the words and their room against what they were.
func (a lent) mustStay(t *testing.T, call string) {
	t.Helper()
	if !slices.Equal(a.all, a.was) {
		t.Fatalf("%s has made %x of its argument %x", call, a.all, a.was)
	}
}

// spoil writes all over the memory of a list, its unused capacity included.
func spoil[T any](l []T, with T) {
	all := l[:cap(l)]
	for at := range all {
		all[at] = with
	}
}

// mustHide holds a Hide against the model.
func mustHide(t *testing.T, next int, key uint64, at int) (uint64, api.Errno) {
	t.Helper()
	w, e := link.Hide(next, key, at)
	if wantW, wantE := wantHide(next, key, at); w != wantW || e != wantE {
		t.Fatalf("Hide(%d, %#x, %d): %#x, %d, not %#x, %d", next, key, at, w, e, wantW, wantE)
	}
	return w, e
}

// mustShow holds a Show against the model.
func mustShow(t *testing.T, w, key uint64, at int) (int, bool) {
	t.Helper()
	next, is := link.Show(w, key, at)
	if wantNext, wantIs := wantShow(w, key, at); next != wantNext || is != wantIs {
		t.Fatalf("Show(%#x, %#x, %d): %d, %v, not %d, %v", w, key, at, next, is, wantNext, wantIs)
	}
	return next, is
}

// mustList holds a List against the model, and the memory of both lists against P16.4. Beside an error there is no list.
func mustList(t *testing.T, l []uint64, key uint64, first int) ([]int, api.Errno) {
	t.Helper()
	a := lend(l)
	want, wantE := wantList(l, key, first)
	got, e := link.List(a.list(), key, first)
	a.mustStay(t, "List")
	kept := slices.Clone(got)
	spoil(a.all, 83)
	if !slices.Equal(got, kept) {
		t.Fatalf("List(%x, %#x, %d): %v has become %v", l, key, first, kept, got)
	}
	copy(a.all, a.was)
	spoil(got, -84)
	a.mustStay(t, "What was written into the result of List")
	if !slices.Equal(kept, want) || e != wantE {
		t.Fatalf("List(%x, %#x, %d): %v, %d, not %v, %d", l, key, first, kept, e, want, wantE)
	}
	return kept, e
}

// mustFresh holds a Fresh against the model.
func mustFresh(t *testing.T, n int, key uint64) ([]uint64, api.Errno) {
	t.Helper()
	l, e := link.Fresh(n, key)
	kept := slices.Clone(l)
	spoil(l, 85)
	if want, wantE := wantFresh(n, key); !slices.Equal(kept, want) || e != wantE {
		t.Fatalf("Fresh(%d, %#x): %x, %d, not %x, %d", n, key, kept, e, want, wantE)
	}
	return kept, e
}

// noise gives words without a pattern, the same ones each time.
type noise uint64

func (n *noise) word() uint64 {
	var w uint64
	for range 2 {
		*n = *n*6364136223846793005 + 1442695040888963407
		w = w<<32 | uint64(*n)>>32
	}
	return w
}

func (n *noise) next(below int) int {
	return int(n.word() % uint64(below))
}

// shuffled is the numbers below another one, in an order without a pattern.
func (n *noise) shuffled(many int) []int {
	var l []int
	for i := range many {
		l = slices.Insert(l, n.next(i+1), i)
	}
	return l
}

// plainKeys are 0, ends of what a word may be, and words of which some add up to just 2^64.
func plainKeys() []uint64 {
	return []uint64{0, 1, 2, 16, 17, 31, 1 << 31, 1 << 32, 1<<32 - 1, 1<<63 - 1, 1 << 63, 1<<63 + 1, multiplier, 1<<64 - multiplier, 1<<64 - multiplier - 1, 1<<64 - 2, 1<<64 - 1}
}

// mixedKeys have bits of both kinds everywhere.
func mixedKeys() []uint64 {
	l := []uint64{0x0123456789abcdef, 0xfedcba9876543210, 0x9e3779b97f4a7c15, 0xaaaaaaaaaaaaaaaa, 0x5555555555555555, 0xf0f0f0f00f0f0f0f, 11400714819323198485}
	n := noise(16)
	for range 12 {
		l = append(l, n.word())
	}
	return l
}

// bitKeys have a single bit, or lack one.
func bitKeys() []uint64 {
	var l []uint64
	for bit := range 64 {
		l = append(l, 1<<bit, ^uint64(1<<bit))
	}
	return l
}

// fullKeys are those that at some object make a derived key of 2^64 - 1, of 2^64, which is 0, and of few more.
func fullKeys() []uint64 {
	var l []uint64
	for at := range uint64(16) {
		for _, beside := range []uint64{1<<64 - 1, 0, 1, 16, 17} {
			l = append(l, bits.RotateLeft64(beside-at*multiplier, -5*int(at)))
		}
	}
	return l
}

// twinKeys are those that at two objects which follow each other make nearly one derived key, or just one, so that links at the one often decode at the other as well: of the four below, which do so at 0 and 1, the first makes just one; turned back by 5 bits, they do so at 1 and 2.
func twinKeys() []uint64 {
	var l []uint64
	for _, key := range []uint64{0x6b5ad6b5a850ca86, 0x5ad6b5ad66404665, 0x8c6318c62c71d2c8, 0xad6b5ad6b092db0a} {
		for at := range 15 {
			l = append(l, bits.RotateLeft64(key, -5*at))
		}
	}
	return l
}

// keys are some of each sort.
func keys() []uint64 {
	return slices.Concat(plainKeys(), mixedKeys(), fullKeys()[:15], twinKeys()[:16])
}

// allKeys are all of each sort.
func allKeys() []uint64 {
	return slices.Concat(plainKeys(), mixedKeys(), bitKeys(), fullKeys(), twinKeys())
}

// outside are numbers that no object has, none left out.
func outside() []int {
	return []int{math.MinInt, math.MinInt + 1, math.MinInt + 15, math.MinInt32, -1 << 40, -65, -64, -17, -16, -15, -13, -3, -2, 16, 17, 18, 31, 32, 63, 64, 65, 255, 256, 1 << 32, 1<<32 + 1, math.MaxInt32, math.MaxInt - 16, math.MaxInt - 1, math.MaxInt}
}

func TestExamples(t *testing.T) { // of the chapter
	for _, c := range []struct {
		next int
		key  uint64
		at   int
		want uint64
	}{{3, 0, 0, 4}, {-1, 0, 0, 0}, {0, 1, 1, 2654435800}} {
		if w, e := link.Hide(c.next, c.key, c.at); w != c.want || e != api.OK {
			t.Errorf("Hide(%d, %d, %d): %d, %d, not %d", c.next, c.key, c.at, w, e, c.want)
		}
	}
	if next, is := link.Show(17, 0, 0); next != 0 || is {
		t.Errorf("Show(17, 0, 0): %d, %v", next, is)
	}
	if next, is := link.Show(16, 0, 0); next != 15 || !is {
		t.Errorf("Show(16, 0, 0): %d, %v", next, is)
	}
	l, e := link.Fresh(3, 7)
	if e != api.OK {
		t.Fatal(e)
	}
	for first, want := range map[int][]int{0: {0, 1, 2}, 2: {2}, -1: nil} {
		if got, e := link.List(l, 7, first); !slices.Equal(got, want) || e != api.OK {
			t.Errorf("List of Fresh(3, 7) from %d: %v, %d, not %v", first, got, e, want)
		}
	}
}

func TestWorkedOut(t *testing.T) { // P16.1: links that were worked out outside of the program
	for _, c := range []struct {
		next int
		key  uint64
		at   int
		want uint64
	}{
		{-1, 0, 13, 34507664997}, // 13 times 2654435769
		{-1, 0, 15, 39816536535},
		{-1, 1, 12, 1<<60 + 31853229228}, // turned by 60
		{0, 1, 12, 1<<60 + 31853229229},
		{-1, 1, 13, 2 + 34507664997}, // by 65
		{15, 1, 13, 34507665015},
		{-1, 1, 15, 2048 + 39816536535}, // by 75
		{7, 1, 15, 39816538591},
		{-1, 1 << 63, 0, 1 << 63},
		{-1, 1 << 63, 1, 16 + 2654435769},
		{-1, 1<<63 + 1, 13, 3 + 34507664997},
		{-1, 2654435769, 1, 87596380377}, // 33 times 2654435769
		{-1, 2654435769, 15, 5476100991447},
		{-1, 1<<64 - 2654435769, 1, 18446743991422042808},
		{-1, 1<<64 - 2654435769, 12, 9223372068542102800},
		{-1, 1<<64 - 1, 1, 2654435768}, // beyond 2^64
		{0, 1<<64 - 1, 2, 5308871536},
		{-1, 1<<64 - 1, 15, 39816536534},
		{3, 0x0123456789abcdef, 0, 0x0123456789abcdeb},
		{3, 0x0123456789abcdef, 4, 0x56789abf57cdf91c},
		{3, 0x0123456789abcdef, 12, 0xf012345de334718e},
		{14, 0x0123456789abcdef, 13, 0x2468ad71c28ca4c},
		{15, 0x0123456789abcdef, 15, 0x1a2b3c56a3af99f0},
	} {
		if w, e := link.Hide(c.next, c.key, c.at); w != c.want || e != api.OK {
			t.Errorf("Hide(%d, %#x, %d): %#x, %d, not %#x", c.next, c.key, c.at, w, e, c.want)
		}
		if next, is := link.Show(c.want, c.key, c.at); next != c.next || !is {
			t.Errorf("Show(%#x, %#x, %d): %d, %v, not %d", c.want, c.key, c.at, next, is, c.next)
		}
		if w, e := wantHide(c.next, c.key, c.at); w != c.want || e != api.OK {
			t.Errorf("the model's Hide(%d, %#x, %d): %#x, %d, not %#x", c.next, c.key, c.at, w, e, c.want)
		}
	}
}

func TestHide(t *testing.T) { // P16.1: each object, each next one, those that are none, and all keys
	hidden := 0
	for _, key := range allKeys() {
		for at := -2; at <= 17; at++ {
			for next := -2; next <= 17; next++ {
				if _, e := mustHide(t, next, key, at); e == api.OK {
					hidden++
				}
			}
		}
	}
	if hidden != len(allKeys())*16*17 {
		t.Error("links:", hidden)
	}
}

// mustBeNoLink holds a Hide against ErrArg, beside which there is no link.
func mustBeNoLink(t *testing.T, next int, key uint64, at int) {
	t.Helper()
	if w, e := link.Hide(next, key, at); w != 0 || e != api.ErrArg {
		t.Fatalf("Hide(%d, %#x, %d): %#x, %d, not ErrArg", next, key, at, w, e)
	}
}

func TestHideOutside(t *testing.T) { // P16.1: objects that there are not, as the next one, as the one of the link, and as both
	for _, key := range keys() {
		for _, out := range outside() {
			for inside := -1; inside <= 15; inside++ {
				mustBeNoLink(t, out, key, inside)
				mustBeNoLink(t, inside, key, out)
				mustBeNoLink(t, inside, key, -1)
			}
			for _, too := range outside() {
				mustBeNoLink(t, out, key, too)
			}
		}
	}
}

// plains are numbers that a word may become: those that tell an object or none, those behind them, and numbers of which some bits look like one.
func plains() []uint64 {
	l := []uint64{1<<64 - 1, 1<<64 - 2, 1<<64 - 16, 1<<64 - 17, 1<<63 - 1, 1<<32 - 1, 1<<31 - 1, 0x0101010101010101}
	for n := range uint64(70) {
		l = append(l, n)
	}
	for bit := 6; bit < 64; bit++ {
		l = append(l, 1<<bit, 1<<bit+1, 1<<bit+15, 1<<bit+16)
	}
	return l
}

func TestShow(t *testing.T) { // P16.1
	for _, key := range keys() {
		for at := range 16 {
			decoded := 0
			for _, plain := range plains() {
				next, is := mustShow(t, veiled(plain, key, at), key, at)
				if is != (plain <= 16) || is && next != int(plain)-1 {
					t.Fatalf("%d hidden by %#x at %d: %d, %v", plain, key, at, next, is)
				}
				if is {
					decoded++
				}
			}
			if decoded != 17 {
				t.Fatalf("with key %#x at %d %d words decode", key, at, decoded)
			}
		}
	}
}

func TestShowBits(t *testing.T) { // P16.1: a word with one bit that differs, or two
	for _, key := range allKeys() {
		for at := range 16 {
			for _, next := range []int{-1, 0, 6, 15} {
				w := links(key, at)[next+1]
				mustShow(t, w, key, at)
				for bit := range 64 {
					mustShow(t, w^1<<bit, key, at)
					mustShow(t, w^1<<bit^1<<(bit*7%64), key, at)
				}
			}
		}
	}
}

func TestShowOutside(t *testing.T) { // P16.1: at no object there is a link, whatever the word is
	for _, key := range keys() {
		for _, at := range append(outside(), -1) {
			words := []uint64{0, 1, 15, 16, 17, key, key ^ 1, key ^ 16, 1<<64 - 1}
			turn := 5 * at
			words = append(words, bits.RotateLeft64(key, turn)+uint64(at)*multiplier, bits.RotateLeft64(key, turn)+uint64(at)*multiplier^3, bits.RotateLeft64(key, 5*(at&15))+uint64(at&15)*multiplier)
			for _, w := range words {
				if next, is := link.Show(w, key, at); next != 0 || is {
					t.Fatalf("Show(%#x, %#x, %d): %d, %v", w, key, at, next, is)
				}
			}
		}
	}
}

func TestShowIsWhatWasHidden(t *testing.T) { // P16.5: by what the package itself tells
	n := noise(5)
	all := allKeys()
	for range 2000 {
		all = append(all, n.word())
	}
	for _, key := range all {
		for at := range 16 {
			for next := -1; next <= 15; next++ {
				w, e := link.Hide(next, key, at)
				if shown, is := link.Show(w, key, at); e != api.OK || shown != next || !is {
					t.Fatalf("Hide(%d, %#x, %d): %#x, %d, of which %d, %v is shown", next, key, at, w, e, shown, is)
				}
			}
		}
	}
}

func TestShowAtAnotherObject(t *testing.T) { // P16.1, P16.5: what was hidden at one object, shown at another one, decodes seldom
	same, other, none := 0, 0, 0
	for _, key := range slices.Concat(keys(), twinKeys()) {
		for at := range 16 {
			for next := -1; next <= 15; next++ {
				for where := -1; where <= 16; where++ {
					if where == at {
						continue
					}
					switch shown, is := mustShow(t, links(key, at)[next+1], key, where); {
					case !is:
						none++
					case shown == next:
						same++
					default:
						other++
					}
				}
			}
		}
	}
	if same < 100 || other < 100 || none < 100000 {
		t.Error("as hidden, as another one, not at all:", same, other, none)
	}
}

func TestShowWithAnotherKey(t *testing.T) { // P16.1
	decoded, none := 0, 0
	for _, key := range keys() {
		for _, as := range append(keys(), key^1, key^2, key^16, key^31, key^32, key+1) {
			for at := range 16 {
				for _, next := range []int{-1, 0, 7, 15} {
					if _, is := mustShow(t, links(key, at)[next+1], as, at); is {
						decoded++
					} else {
						none++
					}
				}
			}
		}
	}
	if decoded < 1000 || none < 10000 {
		t.Error("decoded, and not:", decoded, none)
	}
}

func TestLinksDiffer(t *testing.T) { // P16.1: no two of an object are one, and each one is its next object, one more, combined with one key
	for _, key := range allKeys() {
		for at := range 16 {
			none, e := link.Hide(-1, key, at)
			if e != api.OK {
				t.Fatal(key, at, e)
			}
			for next := range 16 {
				if w, e := link.Hide(next, key, at); w^none != uint64(next+1) || e != api.OK {
					t.Fatalf("Hide(%d, %#x, %d): %#x, %d, but %#x of none", next, key, at, w, e, none)
				}
			}
		}
	}
}

// no is what a link that does not decode leads to, in a list that a test writes.
const no = 99

// written is the words of links that lead to some objects.
func written(nexts []int, key uint64) []uint64 {
	var l []uint64
	for at, next := range nexts {
		plain := uint64(next + 1)
		if next == no {
			plain = 17 + uint64(at)<<(4*at)
		}
		l = append(l, veiled(plain, key, at))
	}
	return l
}

// chain is the links of so many objects of which some are a list in their order; all others lead to rest.
func chain(order []int, many, rest int) []int {
	nexts := slices.Repeat([]int{rest}, many)
	for i, at := range order {
		nexts[at] = -1
		if i+1 < len(order) {
			nexts[at] = order[i+1]
		}
	}
	return nexts
}

// firsts are where a list of so many words may be asked for to start, and where not.
func firsts(many int) []int {
	return append(outside(), -1, 0, 1, many/2, many-2, many-1, many, many+1, 15)
}

// eachRow calls a function with each row of so many of some numbers.
func eachRow(of []int, many int, call func(row []int)) {
	row := make([]int, many)
	var fill func(at int)
	fill = func(at int) {
		if at == many {
			call(row)
			return
		}
		for _, n := range of {
			row[at] = n
			fill(at + 1)
		}
	}
	fill(0)
}

func TestEveryShortList(t *testing.T) { // P16.2: all links of up to 4 objects, from each of them on: to each, to none, to one that there is not, to none that decodes
	seen := map[api.Errno]int{}
	lengths := map[int]int{}
	for many := range 5 {
		tos := []int{-1, no, many, 15}
		for next := range many {
			tos = append(tos, next)
		}
		for _, key := range []uint64{0, 1<<64 - 1, 0x0123456789abcdef, twinKeys()[0]} {
			eachRow(tos, many, func(nexts []int) {
				l := written(nexts, key)
				for first := -2; first <= many+1; first++ {
					objects, e := mustList(t, l, key, first)
					seen[e]++
					lengths[len(objects)]++
				}
			})
		}
	}
	if len(seen) != 3 || seen[api.OK] < 1000 || seen[api.ErrSlab] < 1000 || seen[api.ErrArg] < 1000 || len(lengths) != 5 {
		t.Error("errors, and lengths of lists:", seen, lengths)
	}
}

// shapes are links of so many objects: fresh ones, backwards, all alone, all in a circle, none that decodes, some left out, in no order.
func shapes(many int) [][]int {
	n := noise(many)
	up := n.shuffled(many)
	slices.Sort(up)
	down := slices.Clone(up)
	slices.Reverse(down)
	mixed := n.shuffled(many)
	l := [][]int{chain(up, many, no), chain(down, many, no), chain(nil, many, -1), chain(nil, many, no), chain(mixed, many, no), chain(mixed[:many/2], many, no), chain(mixed[many/2:], many, -1)}
	if many > 0 {
		circle := chain(up, many, no)
		circle[many-1] = 0
		l = append(l, circle)
	}
	return l
}

func TestListEdges(t *testing.T) { // P16.2: no words at all, one, .. and more than there may be; from each place, and from none
	for _, many := range []int{0, 1, 2, 3, 8, 14, 15, 16, 17, 18, 32, 33, 100} {
		for _, key := range keys() {
			for _, nexts := range shapes(many) {
				l := written(nexts, key)
				for _, first := range firsts(many) {
					objects, e := mustList(t, l, key, first)
					if isArg := many > 16 || first < -1 || first >= many; isArg != (e == api.ErrArg) {
						t.Fatalf("List of %d words from %d: %v, %d", many, first, objects, e)
					}
					if first == -1 && many <= 16 && (len(objects) != 0 || e != api.OK) {
						t.Fatalf("List of %d words from none: %v, %d", many, objects, e)
					}
				}
			}
		}
	}
}

func TestNilWords(t *testing.T) { // P16.2: nil is a list of no words
	for _, l := range [][]uint64{nil, {}} {
		if got, e := link.List(l, 5, -1); len(got) != 0 || e != api.OK {
			t.Errorf("List(%v, 5, -1): %v, %d", l, got, e)
		}
		for _, first := range append(outside(), 0, 1, 15) {
			if got, e := link.List(l, 5, first); len(got) != 0 || e != api.ErrArg {
				t.Errorf("List(%v, 5, %d): %v, %d", l, first, got, e)
			}
		}
	}
}

func TestFirstErrorOfList(t *testing.T) { // P16.2: what is wrong with the arguments comes ahead of links that are wrong
	for _, many := range []int{1, 2, 15, 16, 17, 40} {
		for _, nexts := range [][]int{chain(nil, many, no), chain(nil, many, 0), chain(nil, many, 15), chain(nil, many, -1)} {
			l := written(nexts, 3)
			for _, first := range append(outside(), many, many+1) {
				if got, e := link.List(l, 3, first); len(got) != 0 || e != api.ErrArg {
					t.Fatalf("List(%x, 3, %d): %v, %d, not ErrArg", l, first, got, e)
				}
			}
			want := api.OK
			if many > 16 { // not even from none
				want = api.ErrArg
			}
			if got, e := link.List(l, 3, -1); len(got) != 0 || e != want {
				t.Fatalf("List(%x, 3, -1): %v, %d, not %d", l, got, e, want)
			}
		}
	}
}

// orders are some orders of some of so many objects, at least one of them.
func orders(many int) [][]int {
	n := noise(1000 + many)
	up := n.shuffled(many)
	slices.Sort(up)
	down := slices.Clone(up)
	slices.Reverse(down)
	l := [][]int{up, down, n.shuffled(many), n.shuffled(many)}
	for range 3 {
		l = append(l, n.shuffled(many)[:1+n.next(many)])
	}
	return l
}

func TestOneOtherLink(t *testing.T) { // P16.2: at each place of a list one link that leads to none, to each object, to itself, to those that there are not, or does not decode
	seen := map[api.Errno]int{}
	for many := 1; many <= 16; many++ {
		for _, order := range orders(many) {
			for _, key := range []uint64{0, 1<<63 + 1, 0xfedcba9876543210} {
				l := written(chain(order, many, -1), key)
				for _, at := range order {
					was := l[at]
					for plain := range uint64(20) {
						l[at] = veiled(plain, key, at)
						_, e := mustList(t, l, key, order[0])
						seen[e]++
					}
					l[at] = was
				}
			}
		}
	}
	if len(seen) != 2 || seen[api.OK] < 1000 || seen[api.ErrSlab] < 1000 {
		t.Error("errors:", seen)
	}
}

// mustBeNoList holds a List from an object against ErrSlab, beside which there is none.
func mustBeNoList(t *testing.T, nexts []int, first int) {
	t.Helper()
	for _, key := range []uint64{0, 7, 1<<64 - 1, 0x0123456789abcdef} {
		if got, e := link.List(written(nexts, key), key, first); len(got) != 0 || e != api.ErrSlab {
			t.Errorf("List of %v with key %#x from %d: %v, %d, not ErrSlab", nexts, key, first, got, e)
		}
	}
}

func TestFaultsWorkedOut(t *testing.T) { // P16.2
	for _, c := range []struct {
		nexts []int
		first int
	}{
		{[]int{0}, 0}, // to itself
		{[]int{1}, 0}, // to the one behind the last
		{[]int{15}, 0},
		{[]int{no}, 0},
		{[]int{1, 1}, 0},
		{[]int{1, 0}, 0}, // to the one before it, the first one
		{[]int{1, 0}, 1},
		{[]int{1, 2}, 0},
		{[]int{-1, no}, 1},
		{[]int{1, 2, 3, 1, -1}, 0}, // to one in the middle
		{[]int{1, 2, 3, 2, -1}, 0},
		{[]int{1, 2, 3, 3, -1}, 0},
		{[]int{1, 2, 3, 0, -1}, 0},
		{[]int{1, 2, 3, 5, -1}, 0},
		{[]int{1, 2, 3, 15, -1}, 0},
		{[]int{1, 2, 3, no, -1}, 0},
		{[]int{1, 2, 15, 4, -1}, 0},
		{[]int{1, 2, no, 4, -1}, 0},
		{[]int{1, 2, 3, 4, no}, 0},
		{[]int{1, 2, 3, 4, 0}, 0},
		{[]int{1, 2, 3, 4, 4}, 0},
		{[]int{1, 2, 3, 4, 3}, 0},
		{[]int{1, 2, 3, 4, 5}, 0},
		{[]int{1, 2, 3, 4, 0}, 3},
		{[]int{1, 2, 3, 4, 5, 6, 7, 8, 9, 10, 11, 12, 13, 14, 15}, 0}, // to a 16th, which 15 words do not have
		{[]int{1, 2, 3, 4, 5, 6, 7, 8, 9, 10, 11, 12, 13, 14, 15, 15}, 0},
		{[]int{1, 2, 3, 4, 5, 6, 7, 8, 9, 10, 11, 12, 13, 14, 15, 0}, 0}, // all 16 in a circle
		{[]int{1, 2, 3, 4, 5, 6, 7, 8, 9, 10, 11, 12, 13, 14, 15, 0}, 9},
		{[]int{1, 2, 3, 4, 5, 6, 7, 8, 9, 10, 11, 12, 13, 14, 15, no}, 0},
		{[]int{1, 2, 3, 4, 5, 6, 7, 8, 9, 10, 11, 12, 13, 14, 15, no}, 15},
	} {
		mustBeNoList(t, c.nexts, c.first)
	}
}

// mustLead holds a List against the objects that a test knows.
func mustLead(t *testing.T, l []uint64, key uint64, first int, want []int) {
	t.Helper()
	if got, e := link.List(l, key, first); !slices.Equal(got, want) || e != api.OK {
		t.Fatalf("List(%x, %#x, %d): %v, %d, not %v", l, key, first, got, e, want)
	}
}

func TestListsWorkedOut(t *testing.T) { // P16.2
	for _, c := range []struct {
		nexts []int
		first int
		want  []int
	}{
		{[]int{-1}, 0, []int{0}},
		{[]int{-1, 0}, 1, []int{1, 0}},
		{[]int{-1, 0}, 0, []int{0}},
		{[]int{2, -1, 1}, 0, []int{0, 2, 1}},
		{[]int{2, -1, 1}, 2, []int{2, 1}},
		{[]int{2, -1, 1}, -1, nil},
		{[]int{no, no, no}, -1, nil},
		{[]int{no, 3, no, -1, no}, 1, []int{1, 3}}, // what is not reached need not decode
		{[]int{0, 1, 4, 15, -1}, 2, []int{2, 4}},
		{[]int{3, 0, 1, -1, 0, 1}, 2, []int{2, 1, 0, 3}}, // others may lead into the list
		{[]int{15, 0, 1, 2, 3, 4, 5, 6, 7, 8, 9, 10, 11, 12, 13, -1}, 14, []int{14, 13, 12, 11, 10, 9, 8, 7, 6, 5, 4, 3, 2, 1, 0, 15}},
		{[]int{1, 2, 3, 4, 5, 6, 7, 8, 9, 10, 11, 12, 13, 14, 15, -1}, 0, []int{0, 1, 2, 3, 4, 5, 6, 7, 8, 9, 10, 11, 12, 13, 14, 15}},
		{[]int{1, 2, 3, 4, 5, 6, 7, 8, 9, 10, 11, 12, 13, 14, 15, -1}, 15, []int{15}},
	} {
		for _, key := range []uint64{0, 7, 1<<64 - 1, 0x0123456789abcdef} {
			mustLead(t, written(c.nexts, key), key, c.first, c.want)
		}
	}
}

func TestWhatIsNotReached(t *testing.T) { // P16.2: nothing comes of words that the list does not reach
	n := noise(2)
	for range 4000 {
		many := 1 + n.next(16)
		order := n.shuffled(many)[:1+n.next(many)]
		key := n.word()
		l := written(chain(order, many, no), key)
		for at := range many {
			if !slices.Contains(order, at) {
				l[at] = [3]uint64{n.word(), links(key, at)[n.next(17)], 0}[n.next(3)]
			}
		}
		for i, first := range order {
			mustLead(t, l, key, first, order[i:])
		}
	}
}

func TestListOfAnotherKey(t *testing.T) { // P16.2
	seen := map[api.Errno]int{}
	for _, key := range keys() {
		for _, as := range append(keys(), key^1, key^2, key^16, key^32, key+1, ^key, bits.RotateLeft64(key, 5)) {
			for _, nexts := range shapes(6) {
				for first := range 6 {
					_, e := mustList(t, written(nexts, key), as, first)
					if as != key {
						seen[e]++
					}
				}
			}
		}
	}
	if seen[api.ErrSlab] < 10000 || seen[api.OK] < 10 {
		t.Error("errors:", seen)
	}
	for _, key := range mixedKeys() {
		l := written(chain([]int{0, 1, 2, 3}, 4, no), key)
		for bit := 5; bit < 64; bit++ { // any bit that no link has of its own
			if got, e := link.List(l, key^1<<bit, 0); len(got) != 0 || e != api.ErrSlab {
				t.Fatalf("a list of key %#x with bit %d of it another: %v, %d", key, bit, got, e)
			}
		}
	}
}

func TestLongLists(t *testing.T) { // P16.2: of up to 16 objects in any order, and what becomes of them if a word is another one
	n := noise(3)
	seen := map[api.Errno]int{}
	for range 4000 {
		many := 1 + n.next(16)
		order := n.shuffled(many)
		key := keys()[n.next(len(keys()))]
		l := written(chain(order, many, no), key)
		mustLead(t, l, key, order[0], order)
		at := n.next(many)
		l[at] = veiled(uint64(n.next(19)), key, at)
		for first := range many {
			_, e := mustList(t, l, key, first)
			seen[e]++
		}
	}
	if len(seen) != 2 || seen[api.OK] < 5000 || seen[api.ErrSlab] < 5000 {
		t.Error("errors:", seen)
	}
}

func TestFresh(t *testing.T) { // P16.3: each number of objects with all keys
	for _, key := range allKeys() {
		for n := 1; n <= 16; n++ {
			l, e := mustFresh(t, n, key)
			if len(l) != n || e != api.OK {
				t.Fatalf("Fresh(%d, %#x): %x, %d", n, key, l, e)
			}
			for at, w := range l {
				want := at + 1
				if want == n {
					want = -1
				}
				if next, is := link.Show(w, key, at); next != want || !is {
					t.Fatalf("Fresh(%d, %#x): %d leads to %d, %v", n, key, at, next, is)
				}
			}
		}
	}
}

func TestFreshOutside(t *testing.T) { // P16.3
	for _, key := range allKeys() {
		for _, n := range append(outside(), -1, 0) {
			if n == 16 {
				continue
			}
			if l, e := mustFresh(t, n, key); len(l) != 0 || e != api.ErrArg {
				t.Fatalf("Fresh(%d, %#x): %x, %d", n, key, l, e)
			}
		}
	}
}

func TestFreshWorkedOut(t *testing.T) { // P16.3
	for _, c := range []struct {
		n    int
		key  uint64
		want []uint64
	}{
		{1, 0, []uint64{0}},
		{1, 7, []uint64{7}},
		{2, 0, []uint64{2, multiplier}},
		{3, 0, []uint64{2, multiplier ^ 3, 2 * multiplier}},
		{3, 7, []uint64{5, (224 + multiplier) ^ 3, 7168 + 2*multiplier}},
		{2, 1<<64 - 1, []uint64{1<<64 - 3, multiplier - 1}},
	} {
		if l, e := link.Fresh(c.n, c.key); !slices.Equal(l, c.want) || e != api.OK {
			t.Errorf("Fresh(%d, %#x): %x, %d, not %x", c.n, c.key, l, e, c.want)
		}
	}
}

func TestFreshLinksAreAList(t *testing.T) { // P16.6: by what the package itself tells
	for _, key := range allKeys() {
		for n := 1; n <= 16; n++ {
			l, e := link.Fresh(n, key)
			if e != api.OK {
				t.Fatal(n, key, e)
			}
			for first := -1; first < n; first++ {
				var want []int
				for i := first; i >= 0 && i < n; i++ {
					want = append(want, i)
				}
				mustLead(t, l, key, first, want)
			}
		}
	}
}

func TestNoObjectTwice(t *testing.T) { // P16.6: whatever the words are, a list has each object once at most, and only those that there are
	n := noise(9)
	found := 0
	for range 100000 {
		many := n.next(17)
		key := n.word()
		l := make([]uint64, many)
		for at := range l {
			l[at], _ = link.Hide(n.next(many+1)-1, key, at)
		}
		objects, e := link.List(l, key, n.next(many+1)-1)
		sorted := slices.Sorted(slices.Values(objects))
		if len(slices.Compact(sorted)) != len(objects) || len(objects) > many {
			t.Fatalf("List(%x, %#x): %v", l, key, objects)
		}
		for _, i := range objects {
			if i < 0 || i >= many {
				t.Fatalf("List(%x, %#x): %v", l, key, objects)
			}
		}
		if e == api.OK && len(objects) > 1 {
			found++
		}
	}
	if found < 10000 {
		t.Error("lists:", found)
	}
}

// hide writes into words the links of a list, by the package itself.
func hide(t *testing.T, l []uint64, key uint64, order []int) {
	t.Helper()
	for i, at := range order {
		next := -1
		if i+1 < len(order) {
			next = order[i+1]
		}
		w, e := link.Hide(next, key, at)
		if e != api.OK {
			t.Fatalf("Hide(%d, %#x, %d): %d", next, key, at, e)
		}
		l[at] = w
	}
}

// mustJoin holds two lists without a common object against P16.6: the link at the end of the first one is replaced by one to the head of the other.
func mustJoin(t *testing.T, many int, key uint64, first, other []int) {
	t.Helper()
	l := make([]uint64, many)
	hide(t, l, key, first)
	hide(t, l, key, other)
	mustLead(t, l, key, first[0], first)
	mustLead(t, l, key, other[0], other)
	end := first[len(first)-1]
	w, e := link.Hide(other[0], key, end)
	if e != api.OK {
		t.Fatal(e)
	}
	l[end] = w
	mustLead(t, l, key, first[0], slices.Concat(first, other))
	mustLead(t, l, key, end, append([]int{end}, other...))
	mustLead(t, l, key, other[0], other)
}

func TestJoinShortLists(t *testing.T) { // P16.6: all pairs of lists of up to 5 objects
	pairs := 0
	for many := 2; many <= 5; many++ {
		eachRow([]int{0, 1, 2, 3, 4}[:many], many, func(row []int) {
			if len(slices.Compact(slices.Sorted(slices.Values(row)))) != many {
				return // not an order of all objects
			}
			for from := 1; from < many; from++ {
				for to := from + 1; to <= many; to++ { // what is behind is in no list
					mustJoin(t, many, 0x0123456789abcdef, row[:from], row[from:to])
					pairs++
				}
			}
		})
	}
	if pairs != 2+6*3+24*6+120*10 {
		t.Error("pairs:", pairs)
	}
}

func TestJoinLongLists(t *testing.T) { // P16.6
	n := noise(6)
	for range 5000 {
		many := 2 + n.next(15)
		order := n.shuffled(many)
		from := 1 + n.next(many-1)
		to := from + 1 + n.next(many-from)
		mustJoin(t, many, n.word(), order[:from], order[from:to])
	}
	for _, key := range allKeys() {
		order := n.shuffled(16)
		mustJoin(t, 16, key, order[:8], order[8:])
		mustJoin(t, 16, key, order[:1], order[1:])
		mustJoin(t, 16, key, order[:15], order[15:])
	}
}

func TestResultsAreNewMemory(t *testing.T) { // P16.4: what is written into a result is in no other one
	const key = 0xfedcba9876543210
	l, _ := link.Fresh(16, key)
	was := slices.Clone(l)
	spoil(l, 86)
	again, e := link.Fresh(16, key)
	if !slices.Equal(again, was) || e != api.OK {
		t.Fatalf("Fresh: %x, %d, not %x", again, e, was)
	}
	spoil(l, 87)
	if !slices.Equal(again, was) {
		t.Fatalf("%x was %x", again, was)
	}
	for first := range 16 {
		one, _ := link.List(again, key, first)
		two, _ := link.List(again, key, first)
		kept := slices.Clone(two)
		spoil(one, -88)
		three, _ := link.List(again, key, first)
		if !slices.Equal(two, kept) || !slices.Equal(three, kept) || !slices.Equal(again, was) {
			t.Fatalf("List from %d: %v, then %v, not %v", first, two, three, kept)
		}
	}
}

func TestArgumentsAreNotKept(t *testing.T) { // P16.4: nothing comes of what is written into the words behind a call
	const key = 5
	words := written([]int{3, -1, 1, 2}, key)
	first, e := link.List(words, key, 0)
	if e != api.OK {
		t.Fatal(e)
	}
	copy(words, written([]int{-1, 0, 1, 2}, key))
	second, e := link.List(words, key, 3)
	if e != api.OK {
		t.Fatal(e)
	}
	spoil(words, 89)
	if !slices.Equal(first, []int{0, 3, 2, 1}) || !slices.Equal(second, []int{3, 2, 1, 0}) {
		t.Error(first, second)
	}
	if got, e := link.List(words, key, 0); len(got) != 0 || e != api.ErrSlab {
		t.Errorf("List of other words: %v, %d", got, e)
	}
}

func TestArgumentsAreRead(t *testing.T) { // P16.4: words that share memory, and one list for two calls
	const key = 1 << 63
	l := lend(written([]int{4, 0, 1, 2, -1, 3}, key))
	for range 3 {
		mustLead(t, l.list(), key, 5, []int{5, 3, 2, 1, 0, 4})
		mustLead(t, l.list()[:5], key, 3, []int{3, 2, 1, 0, 4})
		if got, e := link.List(l.list()[:4], key, 3); len(got) != 0 || e != api.ErrSlab { // object 4 is behind the words
			t.Errorf("List of 4 words: %v, %d", got, e)
		}
		l.mustStay(t, "List")
	}
}

// answers is what calls return.
type answers struct {
	w                   uint64
	next                int
	is                  bool
	objects             [16]int
	many                int
	fresh               [16]uint64
	hideE, listE, freeE api.Errno
}

// call is arguments of all functions.
type call struct {
	next, at, first, n int
	key                uint64
	l                  []uint64
}

// ask makes the calls.
func (c call) ask() answers {
	var a answers
	a.w, a.hideE = link.Hide(c.next, c.key, c.at)
	a.next, a.is = link.Show(a.w, c.key, c.at)
	objects, e := link.List(c.l, c.key, c.first)
	a.many, a.listE = len(objects), e
	copy(a.objects[:], objects)
	fresh, e := link.Fresh(c.n, c.key)
	a.freeE = e
	copy(a.fresh[:], fresh)
	return a
}

func TestSameAnswers(t *testing.T) { // R2: forwards, backwards, and from several goroutines
	n := noise(7)
	var calls []call
	for range 4000 {
		key, many := n.word(), n.next(18)
		order := n.shuffled(many)
		l := written(chain(order[:many/2], many, no), key)
		if many > 0 && n.next(3) == 0 {
			l = written(chain(order, many, no), key)
		}
		calls = append(calls, call{n.next(19) - 2, n.next(18) - 1, n.next(many+2) - 1, n.next(18), key, l})
	}
	first := make([]answers, len(calls))
	for at, c := range calls {
		first[at] = c.ask()
	}
	for at, c := range slices.Backward(calls) {
		if got := c.ask(); got != first[at] {
			t.Fatalf("%+v: %+v, not %+v", c, got, first[at])
		}
	}
	var others sync.WaitGroup
	for range 4 {
		others.Go(func() {
			for at, c := range calls {
				if got := c.ask(); got != first[at] {
					t.Errorf("%+v: %+v, not %+v", c, got, first[at])
					return
				}
			}
		})
	}
	others.Wait()
}

// behind is the object behind another one in a list in a memory.
func behind(t *testing.T, m *mem.Mem, key uint64, object int) int {
	t.Helper()
	w, e := m.Load(object)
	if e != api.OK {
		t.Fatal(e)
	}
	next, is := link.Show(w, key, object)
	if !is {
		t.Fatalf("%#x does not decode at %d", w, object)
	}
	return next
}

// put puts an object ahead of a list in a memory.
func put(t *testing.T, m *mem.Mem, key uint64, first, object int) {
	t.Helper()
	w, e := link.Hide(first, key, object)
	if e != api.OK {
		t.Fatal(e)
	}
	if e := m.Store(object, w); e != api.OK {
		t.Fatal(e)
	}
}

func TestListsInAMemory(t *testing.T) { // with the layers below: the objects of a slab are taken one by one, and given back
	n := noise(8)
	for size := 1; size <= 256; size++ {
		l, e := layout.Of(size, 8, false)
		if e != api.OK {
			t.Fatal(e)
		}
		key := n.word()
		fresh, e := link.Fresh(l.Objects, key)
		if e != api.OK {
			t.Fatal(e)
		}
		m, e := mem.New(l.Objects)
		if e != api.OK {
			t.Fatal(e)
		}
		for at, w := range fresh {
			if e := m.Store(at, w); e != api.OK {
				t.Fatal(e)
			}
		}
		var out []int
		for object := 0; object != -1; object = behind(t, m, key, object) {
			out = append(out, object)
		}
		if len(out) != l.Objects || !slices.IsSorted(out) {
			t.Fatalf("%+v: %v", l, out)
		}
		order, first := n.shuffled(l.Objects), -1
		for _, object := range order {
			put(t, m, key, first, object)
			first = object
		}
		slices.Reverse(order)
		mustLead(t, m.Words(), key, first, order)
	}
}
