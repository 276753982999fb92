package frame_test

import (
	"math"
	"slices"
	"strings"
	"testing"

	"wainscot/api"
	"wainscot/frame"
)

// The tests hold the package against the chapter said a second time, in another way: heads are all pages that are no inside ones, and each one has to stand as far ahead of the next one as its order says. Set is told page by page.

// inside is what is said of each page behind a head.
var inside = api.Page{Kind: api.PageInside}

// free is a free head of an order.
func free(order int) api.Page { return api.Page{Kind: api.PageFree, Order: order} }

// out is an allocated head of an order, of a cache.
func out(order, cache int) api.Page {
	return api.Page{Kind: api.PageOut, Order: order, Cache: cache}
}

// table is one that is written as in the chapter: F, I, 1F, 2A (of cache 1).
func table(text string) []api.Page {
	var l []api.Page
	for _, word := range strings.Fields(text) {
		order, letter := 0, word[len(word)-1]
		for _, digit := range word[:len(word)-1] {
			order = order*10 + int(digit-'0')
		}
		switch letter {
		case 'F':
			l = append(l, free(order))
		case 'A':
			l = append(l, out(order, 1))
		case 'I':
			l = append(l, inside)
		}
	}
	return l
}

// of is a table of blocks that are told by their heads.
func of(heads ...api.Page) []api.Page {
	var l []api.Page
	for _, h := range heads {
		l = append(l, h)
		for range size(h.Order) - 1 {
			l = append(l, inside)
		}
	}
	return l
}

// size is how many pages a block has.
func size(order int) int {
	n := 1
	for range order {
		n *= 2
	}
	return n
}

// wantHead tells whether a page says what a head may say.
func wantHead(p api.Page) bool {
	most := map[int]int{api.PageFree: 0, api.PageOut: 8}
	cache, is := most[p.Kind]
	return is && 0 <= p.Order && p.Order <= 10 && 0 <= p.Cache && p.Cache <= cache
}

// wantCheck is what Check has to answer.
func wantCheck(l []api.Page) api.Errno {
	if len(l) == 0 || len(l) > 1024 || l[0].Kind == api.PageInside {
		return api.ErrFrame
	}
	next := len(l)
	for at := len(l) - 1; at >= 0; at-- {
		switch p := l[at]; {
		case p == inside:
		case !wantHead(p), next-at != size(p.Order), at%size(p.Order) != 0:
			return api.ErrFrame
		default:
			next = at
		}
	}
	return api.OK
}

// headOf is the page of the head of a page of a table that may be.
func headOf(l []api.Page, page int) int {
	for l[page].Kind == api.PageInside {
		page--
	}
	return page
}

// head is what Head answers.
type head struct {
	page int
	e    api.Errno
}

// wantHeadOf is what Head has to answer.
func wantHeadOf(l []api.Page, page int) head {
	switch {
	case wantCheck(l) != api.OK:
		return head{0, api.ErrFrame}
	case page < 0, page > len(l)-1:
		return head{0, api.ErrRange}
	}
	return head{headOf(l, page), api.OK}
}

// mayStart tells whether a block of an order may start at a page of a table of so many.
func mayStart(many, page, order int) bool {
	for from := 0; from+size(order) <= many; from += size(order) {
		if from == page {
			return true
		}
	}
	return false
}

// wantSet is what Set has to answer.
func wantSet(l []api.Page, page int, as api.Page) ([]api.Page, api.Errno) {
	switch {
	case wantCheck(l) != api.OK:
		return nil, api.ErrFrame
	case !wantHead(as):
		return nil, api.ErrArg
	case !mayStart(len(l), page, as.Order):
		return nil, api.ErrRange
	case l[headOf(l, page)].Order > as.Order:
		return nil, api.ErrFrame
	}
	var set []api.Page
	for at, p := range l {
		switch {
		case at == page:
			set = append(set, as)
		case page < at && at < page+size(as.Order):
			set = append(set, inside)
		default:
			set = append(set, p)
		}
	}
	return set, api.OK
}

// wantFree is what Free has to answer.
func wantFree(l []api.Page) int {
	if wantCheck(l) != api.OK {
		return 0
	}
	many := 0
	for page := range l {
		if l[headOf(l, page)].Kind == api.PageFree {
			many++
		}
	}
	return many
}

// short is a table, or the start of one that is too long to be told.
func short(l []api.Page) []api.Page { return l[:min(len(l), 20)] }

// mustCheck holds Check against what it has to answer.
func mustCheck(t *testing.T, l []api.Page, want api.Errno) {
	t.Helper()
	if e := frame.Check(l); e != want {
		t.Errorf("Check(%v of %d): %d, not %d", short(l), len(l), e, want)
	}
}

// mustHead holds Head against what it has to answer.
func mustHead(t *testing.T, l []api.Page, page int, want head) {
	t.Helper()
	if at, e := frame.Head(l, page); (head{at, e}) != want {
		t.Errorf("Head(%v of %d, %d): %d, %d, not %v", short(l), len(l), page, at, e, want)
	}
}

// mustSet holds Set against what it has to answer.
func mustSet(t *testing.T, l []api.Page, page int, as api.Page, want []api.Page, wantE api.Errno) {
	t.Helper()
	if got, e := frame.Set(l, page, as); e != wantE || !slices.Equal(got, want) {
		t.Errorf("Set(%v of %d, %d, %v): %v of %d, %d, not %v of %d, %d", short(l), len(l), page, as, short(got), len(got), e, short(want), len(want), wantE)
	}
}

// mustNotSet holds an error of Set against the one that has to be.
func mustNotSet(t *testing.T, l []api.Page, page int, as api.Page, want api.Errno) {
	t.Helper()
	mustSet(t, l, page, as, nil, want)
}

// mustFree holds Free against what it has to answer.
func mustFree(t *testing.T, l []api.Page, want int) {
	t.Helper()
	if got := frame.Free(l); got != want {
		t.Errorf("Free(%v of %d): %d, not %d", short(l), len(l), got, want)
	}
}

// mustNotBe holds all functions against a table that may not be, whatever else they are given.
func mustNotBe(t *testing.T, l []api.Page) {
	t.Helper()
	mustCheck(t, l, api.ErrFrame)
	mustFree(t, l, 0)
	for _, page := range []int{math.MinInt, -1, 0, 1, 2, len(l) - 1, len(l), len(l) + 1, math.MaxInt} {
		mustHead(t, l, page, head{0, api.ErrFrame})
		for _, as := range []api.Page{free(0), out(0, 8), free(1), out(10, 1), inside, {Kind: 3}, {Order: -1}, {Order: 11}, {Cache: 1}} {
			mustNotSet(t, l, page, as, api.ErrFrame)
		}
	}
}

// mustBe holds all functions against what they have to answer of a table that may be.
func mustBe(t *testing.T, l []api.Page) {
	t.Helper()
	mustCheck(t, l, api.OK)
	mustFree(t, l, wantFree(l))
	for page := -1; page <= len(l); page++ {
		mustHead(t, l, page, wantHeadOf(l, page))
	}
}

// letters are pages of all kinds, for tables of every sort.
var letters = []api.Page{
	free(0), out(0, 0), out(0, 8), inside, free(1), out(1, 1), free(2),
	{Kind: api.PageInside, Order: 1}, {Kind: api.PageInside, Cache: 1}, {Kind: api.PageFree, Cache: 1}, {Kind: api.PageOut, Cache: 9},
	{Kind: -1}, {Kind: 3}, {Order: -1}, {Order: 11},
}

// heads are such that may be, and such that may not.
var heads = []api.Page{
	free(0), free(1), free(2), free(3), free(10), out(0, 0), out(0, 3), out(1, 8), out(2, 1), out(10, 0),
	inside, {Kind: 3}, {Kind: -1}, {Cache: 1}, {Kind: api.PageOut, Cache: 9}, {Kind: api.PageOut, Cache: -1}, {Order: -1}, {Order: 11}, {Kind: api.PageInside, Order: 1},
}

// tables calls a function with all tables of some letters, up to a length.
func tables(length int, of []api.Page, each func([]api.Page)) {
	l := make([]api.Page, 0, length)
	var longer func()
	longer = func() {
		each(l)
		if len(l) == length {
			return
		}
		for _, p := range of {
			l = append(l, p)
			longer()
			l = l[:len(l)-1]
		}
	}
	longer()
}

// noise gives numbers without a pattern, the same ones each time.
type noise uint64

func (n *noise) next(below int) int {
	*n = *n*6364136223846793005 + 1442695040888963407
	return int(uint64(*n)>>33) % below
}

// any is a head of an order that may be.
func (n *noise) any(order int) api.Page {
	if n.next(2) == 0 {
		return free(order)
	}
	return out(order, n.next(api.MaxCaches+1))
}

// table is a table of a length that may be, of blocks up to an order.
func (n *noise) table(length, order int) []api.Page {
	var l []api.Page
	for len(l) < length {
		o := n.next(order + 1)
		for !mayStart(length, len(l), o) {
			o--
		}
		l = append(l, of(n.any(o))...)
	}
	return l
}

func TestAllShortTables(t *testing.T) { // P5.1, P5.3, R1
	tables(4, letters, func(l []api.Page) {
		want := wantCheck(l)
		mustCheck(t, l, want)
		mustFree(t, l, wantFree(l))
		for _, page := range []int{math.MinInt, -1, 0, 1, 2, 3, 4, 5, math.MaxInt} {
			mustHead(t, l, page, wantHeadOf(l, page))
		}
	})
}

func TestAllSetsOfShortTables(t *testing.T) { // P5.2, P5.5
	tables(3, letters, func(l []api.Page) {
		for _, as := range heads {
			for page := -1; page <= len(l); page++ {
				want, e := wantSet(l, page, as)
				mustSet(t, l, page, as, want, e)
			}
		}
	})
	tables(8, []api.Page{free(0), inside, out(1, 2), free(2)}, func(l []api.Page) {
		if wantCheck(l) != api.OK {
			mustNotSet(t, l, 0, free(0), api.ErrFrame)
			return
		}
		for _, as := range heads {
			for page := -1; page <= len(l); page++ {
				want, e := wantSet(l, page, as)
				mustSet(t, l, page, as, want, e)
			}
		}
	})
}

func TestLengths(t *testing.T) { // P5.1
	mustNotBe(t, nil)
	mustNotBe(t, []api.Page{})
	for _, p := range []api.Page{free(0), out(0, 0), out(0, 8)} {
		for _, many := range []int{1, 2, 3, 1023, 1024} {
			mustBe(t, slices.Repeat([]api.Page{p}, many))
		}
		mustNotBe(t, slices.Repeat([]api.Page{p}, 1025))
		mustNotBe(t, slices.Repeat([]api.Page{p}, 2048))
	}
	mustNotBe(t, []api.Page{inside})
	mustNotBe(t, of(free(10), free(0)))
	mustNotBe(t, of(free(10), free(10)))
	mustNotBe(t, of(out(9, 1), out(9, 1), out(9, 1)))
}

func TestEachOrder(t *testing.T) { // P5.1, P5.3
	for order := 0; order <= 10; order++ {
		for _, h := range []api.Page{free(order), out(order, 0), out(order, 1), out(order, 8)} {
			l := of(h)
			mustBe(t, l)
			mustHead(t, l, len(l)-1, head{0, api.OK})
			mustBe(t, of(slices.Repeat([]api.Page{h}, size(10-order))...))
			mustNotBe(t, append(slices.Clone(l), inside))
			if order > 0 {
				mustNotBe(t, l[:len(l)-1])
				mustNotBe(t, l[:1])
			}
		}
		mustFree(t, of(free(order)), size(order))
		mustFree(t, of(out(order, 0)), 0)
	}
	for _, order := range []int{math.MinInt, -64, -1, 11, 12, 62, 63, 64, math.MaxInt} {
		for _, kind := range []int{api.PageFree, api.PageOut} {
			mustNotBe(t, []api.Page{{Kind: kind, Order: order}})
			mustNotBe(t, append(slices.Repeat([]api.Page{free(0)}, 1023), api.Page{Kind: kind, Order: order}))
		}
	}
	mustNotBe(t, append([]api.Page{{Order: 11}}, slices.Repeat([]api.Page{inside}, 1023)...))
	mustNotBe(t, append([]api.Page{{Order: 11}}, slices.Repeat([]api.Page{inside}, 2047)...))
}

func TestHeadsStandAtMultiples(t *testing.T) { // P5.1
	for order := 1; order < 10; order++ {
		mustBe(t, of(free(order), out(order, 2)))
		mustBe(t, of(free(order-1), out(order-1, 2), free(order)))
		mustNotBe(t, of(free(order-1), free(order)))
		mustNotBe(t, of(free(order), free(0), free(order)))
		if order > 1 {
			mustNotBe(t, of(free(0), out(0, 0), free(order)))
		}
	}
	mustNotBe(t, table("F 1F I"))
	mustNotBe(t, table("F 1F I F"))
	mustNotBe(t, table("1F I 2F I I I"))
	mustBe(t, table("1F I 1F I 2F I I I"))
}

func TestBlocksEndInTheTable(t *testing.T) { // P5.1
	for _, text := range []string{"1F", "F F 1F", "2F I I", "2F I", "2F", "1F I 1A I 2F I I", "3F I I I", "10F"} {
		mustNotBe(t, table(text))
	}
}

func TestWhereAHeadStandsAndWhereAnInsidePage(t *testing.T) { // P5.1
	for _, text := range []string{
		"I", "I F", "I I", "F I", "F I F", "A I", "1F I I", "1F I I I", // inside where a head has to be
		"1F F", "1F A", "2F I F I", "2F F I I", "2F I I F", "1F 1F I I", "2F I 1F I", "3F I I I 2F I I I", // a head inside
	} {
		mustNotBe(t, table(text))
	}
	for _, text := range []string{"F", "A", "F F", "F A", "1F I", "1A I F", "2F I I I", "F A 1A I 2F I I I F"} {
		mustBe(t, table(text))
	}
}

func TestWhatAPageSays(t *testing.T) { // P5.1
	whole := of(free(2), out(1, 3), free(0), out(0, 0), out(3, 8), free(1))
	mustBe(t, whole)
	for at, p := range whole {
		bad := []api.Page{{Kind: -1, Order: p.Order}, {Kind: 3, Order: p.Order}, {Kind: math.MinInt, Order: p.Order}, {Kind: math.MaxInt, Order: p.Order}}
		switch p.Kind {
		case api.PageInside:
			bad = append(bad, api.Page{Kind: 1, Order: 1}, api.Page{Kind: 1, Order: -1}, api.Page{Kind: 1, Cache: 1}, api.Page{Kind: 1, Cache: -1}, free(0), out(0, 0))
		case api.PageFree:
			bad = append(bad, inside, api.Page{Kind: 1, Order: p.Order}, api.Page{Order: p.Order, Cache: 1}, api.Page{Order: p.Order, Cache: -1}, api.Page{Order: p.Order, Cache: 8}, api.Page{Order: -1}, api.Page{Order: 11}, api.Page{Order: p.Order + 1})
		case api.PageOut:
			bad = append(bad, inside, out(p.Order, -1), out(p.Order, 9), out(p.Order, math.MinInt), out(p.Order, math.MaxInt), out(-1, 1), out(11, 1), out(p.Order+1, 1))
		}
		for _, b := range bad {
			l := slices.Clone(whole)
			l[at] = b
			if wantCheck(l) == api.OK {
				t.Fatal("this one may be", at, b)
			}
			mustNotBe(t, l)
		}
	}
}

func TestCachesOfHeads(t *testing.T) { // P5.1, P5.2
	for cache := -2; cache <= 10; cache++ {
		may := cache >= 0 && cache <= 8
		if may {
			mustBe(t, of(out(1, cache)))
			mustSet(t, table("F F F"), 0, out(1, cache), append(of(out(1, cache)), free(0)), api.OK)
		} else {
			mustNotBe(t, of(out(1, cache)))
			mustNotSet(t, table("F F F"), 0, out(1, cache), api.ErrArg)
		}
		if cache != 0 {
			mustNotBe(t, of(api.Page{Order: 1, Cache: cache}))
			mustNotSet(t, table("F F F"), 0, api.Page{Order: 1, Cache: cache}, api.ErrArg)
		}
	}
}

func TestHead(t *testing.T) { // P5.1
	l := table("1A I F A 2F I I I A")
	for page, want := range []int{0, 0, 2, 3, 4, 4, 4, 4, 8} {
		mustHead(t, l, page, head{want, api.OK})
	}
	for _, page := range []int{math.MinInt, math.MinInt + 1, -9, -1, 9, 10, 1024, math.MaxInt - 1, math.MaxInt} {
		mustHead(t, l, page, head{0, api.ErrRange})
	}
	whole := of(out(10, 8))
	for _, page := range []int{0, 1, 512, 1022, 1023} {
		mustHead(t, whole, page, head{0, api.OK})
	}
	mustHead(t, whole, 1024, head{0, api.ErrRange})
	mustHead(t, whole, -1, head{0, api.ErrRange})
	mustHead(t, of(free(9), out(8, 1), free(8)), 767, head{512, api.OK})
	mustHead(t, of(free(9), out(8, 1), free(8)), 768, head{768, api.OK})
}

func TestSetOverOthers(t *testing.T) { // P5.2
	for _, c := range []struct {
		before string
		page   int
		as     api.Page
		after  string
	}{
		{"F", 0, out(0, 1), "A"},
		{"A", 0, free(0), "F"},
		{"F F F", 2, out(0, 1), "F F A"},                       // the last page
		{"1F I F", 0, out(1, 1), "1A I F"},                     // over one block of that order
		{"F F 1A I", 2, free(1), "F F 1F I"},                   // one that ends with the table
		{"F A F A F", 0, out(2, 1), "2A I I I F"},              // over several small ones
		{"1A I F F", 0, free(2), "2F I I I"},                   // over blocks of two orders
		{"F F F 1A", 0, free(1), ""},                           // a table that may not be
		{"2F I I I 1A I F A", 4, free(2), "2F I I I 2F I I I"}, // blocks ahead stay
		{"2F I I I 1A I F A", 6, out(1, 1), "2F I I I 1A I 1A I"},
		{"2F I I I 1A I F A", 0, out(3, 1), "3A I I I I I I I"}, // over the whole table
		{"2F I I I 1A I F A", 7, free(0), "2F I I I 1A I F F"},
	} {
		e := api.OK
		if c.after == "" {
			e = api.ErrFrame
		}
		mustSet(t, table(c.before), c.page, c.as, table(c.after), e)
	}
}

func TestSetOfGreatOrders(t *testing.T) { // P5.2
	for order := 0; order <= 10; order++ {
		mustSet(t, slices.Repeat([]api.Page{free(0)}, 1024), 0, out(order, 7), append(of(out(order, 7)), slices.Repeat([]api.Page{free(0)}, 1024-size(order))...), api.OK)
		l := slices.Repeat([]api.Page{free(0)}, 1024)
		last := 1024 - size(order)
		mustSet(t, l, last, free(order), append(slices.Repeat([]api.Page{free(0)}, last), of(free(order))...), api.OK)
		mustNotSet(t, l[:1023], last, free(order), api.ErrRange)
		mustNotSet(t, l, last+size(order), free(order), api.ErrRange)
		if order > 0 {
			mustNotSet(t, l, last+1, free(order), api.ErrRange)
			mustNotSet(t, l, last-1, free(order), api.ErrRange)
			mustNotSet(t, l, size(order)/2, free(order), api.ErrRange)
		}
	}
}

func TestSetWhereNoneMayStart(t *testing.T) { // P5.2
	l := table("F F F F F F F")
	for _, page := range []int{math.MinInt, math.MinInt + 1, -1024, -4, -2, -1, 7, 8, 16, 1024, math.MaxInt - 1, math.MaxInt} {
		for order := 0; order <= 10; order++ {
			mustNotSet(t, l, page, free(order), api.ErrRange)
			mustNotSet(t, l, page, out(order, 1), api.ErrRange)
		}
	}
	for _, page := range []int{1, 3, 5, 6} { // six is even, and its block goes beyond the table
		mustNotSet(t, l, page, free(1), api.ErrRange)
	}
	for _, page := range []int{1, 2, 3, 4, 5, 6} {
		mustNotSet(t, l, page, out(2, 1), api.ErrRange)
	}
	for order := 3; order <= 10; order++ {
		mustNotSet(t, l, 0, free(order), api.ErrRange)
	}
}

func TestSetInAGreaterBlock(t *testing.T) { // P5.2
	for order := 1; order <= 10; order++ {
		for _, h := range []api.Page{free(order), out(order, 4)} {
			l := of(h)
			for smaller := range order {
				for page := 0; page < len(l); page += size(smaller) {
					mustNotSet(t, l, page, free(smaller), api.ErrFrame)
					if page == 2*size(smaller) {
						mustNotSet(t, l, page, out(smaller, 4), api.ErrFrame)
						break
					}
				}
				mustNotSet(t, l, len(l)-size(smaller), out(smaller, 8), api.ErrFrame)
			}
			mustSet(t, l, 0, out(order, 5), of(out(order, 5)), api.OK)
		}
	}
	mustNotSet(t, table("F F 1A I 2F I I I"), 3, free(0), api.ErrFrame)
	mustNotSet(t, table("F F 1A I 2F I I I"), 6, free(1), api.ErrFrame)
	mustSet(t, table("F F 1A I 2F I I I"), 1, out(0, 1), table("F A 1A I 2F I I I"), api.OK)
}

func TestSetOfNoHead(t *testing.T) { // P5.2
	for _, l := range [][]api.Page{table("F"), table("1F I A F"), of(free(10))} {
		for _, as := range []api.Page{
			inside, {Kind: -1}, {Kind: 3}, {Kind: math.MinInt}, {Kind: math.MaxInt},
			free(-1), free(11), free(64), free(math.MinInt), free(math.MaxInt), out(-1, 0), out(11, 0),
			{Cache: -1}, {Cache: 1}, {Cache: 8}, {Cache: 9}, out(0, -1), out(0, 9), out(0, math.MinInt), out(0, math.MaxInt),
			{Kind: api.PageInside, Order: 1}, {Kind: api.PageInside, Cache: 1},
		} {
			for _, page := range []int{math.MinInt, -1, 0, 1, len(l), math.MaxInt} {
				mustNotSet(t, l, page, as, api.ErrArg)
			}
		}
	}
}

func TestOrderOfErrors(t *testing.T) { // P5.2
	greater, noHead, noTable := table("1F I"), api.Page{Kind: 3, Order: 1}, table("F I")
	mustNotSet(t, noTable, -1, noHead, api.ErrFrame)
	mustNotSet(t, noTable, -1, free(0), api.ErrFrame)
	mustNotSet(t, noTable, 0, noHead, api.ErrFrame)
	mustNotSet(t, greater, -1, noHead, api.ErrArg)
	mustNotSet(t, greater, 1, noHead, api.ErrArg)
	mustNotSet(t, greater, 1, free(11), api.ErrArg)
	mustNotSet(t, greater, 1, free(1), api.ErrRange)
	mustNotSet(t, greater, 2, free(0), api.ErrRange)
	mustNotSet(t, table("2F I I I"), 1, free(1), api.ErrRange) // in a greater block, and no multiple
	mustNotSet(t, table("2F I I I"), 2, free(1), api.ErrFrame)
	mustNotSet(t, greater, 1, free(0), api.ErrFrame)
}

func TestFree(t *testing.T) { // P5.3
	for _, c := range []struct {
		text string
		want int
	}{
		{"", 0}, {"F", 1}, {"A", 0}, {"F A", 1}, {"A F", 1}, {"1F I", 2}, {"1A I", 0}, {"1A I F", 1},
		{"F A 1F I 2A I I I F", 4}, {"2F I I I 2F I I I", 8}, {"F I", 0}, {"F F F 1F", 0}, {"F F F I", 0},
	} {
		mustFree(t, table(c.text), c.want)
	}
	mustFree(t, of(free(10)), 1024)
	mustFree(t, slices.Repeat([]api.Page{free(0)}, 1024), 1024)
	mustFree(t, slices.Repeat([]api.Page{free(0)}, 1025), 0)
	mustFree(t, of(out(10, 0)), 0)
	mustFree(t, of(out(9, 1), free(9)), 512)
}

func TestLongTables(t *testing.T) { // P5.1, P5.2, P5.3
	n := noise(5)
	for range 40 {
		l := n.table(1+n.next(1024), n.next(11))
		mustCheck(t, l, api.OK)
		mustFree(t, l, wantFree(l))
		for range 40 {
			page := n.next(len(l)+2) - 1
			mustHead(t, l, page, wantHeadOf(l, page))
			as := n.any(n.next(12))
			page &^= size(min(as.Order, n.next(11))) - 1
			want, e := wantSet(l, page, as)
			mustSet(t, l, page, as, want, e)
		}
		l[n.next(len(l))].Order += 1 + n.next(3)
		mustCheck(t, l, wantCheck(l))
		mustFree(t, l, wantFree(l))
	}
}

func TestArgumentsStay(t *testing.T) { // P5.4
	n := noise(7)
	for range 200 {
		whole := n.table(1+n.next(64), n.next(5))
		many := len(whole)
		whole = append(whole, free(3), out(2, 9), inside, inside)
		kept := slices.Clone(whole)
		l := whole[:many]
		frame.Check(l)
		frame.Free(l)
		for page := -1; page <= many; page++ {
			frame.Head(l, page)
			for order := range 4 {
				frame.Set(l, page, free(order))
				frame.Set(l, page, out(order, order))
			}
		}
		frame.Check(whole)
		frame.Head(whole, 0)
		frame.Set(whole, 0, free(0))
		frame.Free(whole)
		if !slices.Equal(whole, kept) {
			t.Fatal("an argument is changed", whole, kept)
		}
	}
}

func TestResultsAreNewMemory(t *testing.T) { // P5.4
	l := table("F A 1F I 2A I I I F")
	for _, c := range []struct {
		page int
		as   api.Page
	}{{0, free(0)}, {0, out(0, 1)}, {1, out(0, 1)}, {2, free(1)}, {4, out(2, 1)}, {0, free(3)}, {8, free(0)}} {
		first, e := frame.Set(l, c.page, c.as)
		again, _ := frame.Set(l, c.page, c.as)
		want, _ := wantSet(l, c.page, c.as)
		if e != api.OK || len(first) != len(l) {
			t.Fatal(first, e)
		}
		for at := range first[:cap(first)] {
			first[:cap(first)][at] = api.Page{Kind: -7, Order: at}
		}
		if !slices.Equal(l, table("F A 1F I 2A I I I F")) {
			t.Fatal("a result shares memory with its argument", c)
		}
		if !slices.Equal(again, want) {
			t.Fatal("a result shares memory with another one", c)
		}
		for at := range again {
			again[at] = inside
		}
		mustSet(t, l, c.page, c.as, want, api.OK)
	}
}

func TestTheArgumentIsNotKept(t *testing.T) { // P5.4, R2
	l := table("F A 1F I")
	set, _ := frame.Set(l, 2, out(1, 1))
	for at := range l {
		l[at] = api.Page{Kind: -1}
	}
	if !slices.Equal(set, table("F A 1A I")) {
		t.Error("a result changes with the argument", set)
	}
	mustNotBe(t, l)
	mustBe(t, set)
}

func TestSetsAreTables(t *testing.T) { // P5.5
	n := noise(55)
	l := n.table(100, 6)
	sets := 0
	for range 4000 {
		order := n.next(7)
		page := n.next(101) &^ (size(order) - 1)
		as := n.any(order)
		set, e := frame.Set(l, page, as)
		if e != api.OK {
			continue
		}
		sets++
		mustCheck(t, set, api.OK)
		mustBlocks(t, l, set, page, page+size(order))
		mustHead(t, set, page, head{page, api.OK})
		l = set
		if n.next(8) == 0 {
			l = n.table(64+n.next(100), n.next(7))
		}
	}
	if sets < 500 {
		t.Error("hardly anything was set", sets)
	}
}

// mustBlocks holds the blocks of two tables against each other, outside of some pages.
func mustBlocks(t *testing.T, before, after []api.Page, from, to int) {
	t.Helper()
	if len(before) != len(after) {
		t.Fatal("pages come or go", len(before), len(after))
	}
	for page := range before {
		if page >= from && page < to {
			continue
		}
		a, _ := frame.Head(before, page)
		b, _ := frame.Head(after, page)
		if a != b || before[page] != after[page] {
			t.Fatal("a block elsewhere changes", page, a, b, from, to)
		}
	}
}

func TestSetOfThePreviousHead(t *testing.T) { // P5.5
	n := noise(9)
	for range 100 {
		l := n.table(1+n.next(300), n.next(9))
		for page := range l {
			if headOf(l, page) == page {
				mustSet(t, l, page, l[page], l, api.OK)
			}
		}
	}
	for order := 0; order <= 10; order++ {
		mustSet(t, of(out(order, 3)), 0, out(order, 3), of(out(order, 3)), api.OK)
		mustSet(t, of(free(order)), 0, free(order), of(free(order)), api.OK)
	}
}

func TestPagesOfAllBlocks(t *testing.T) { // P5.6
	n := noise(56)
	for range 100 {
		l := n.table(1+n.next(1024), n.next(11))
		many, freePages := 0, 0
		for page := range l {
			if h, e := frame.Head(l, page); e == api.OK && h == page {
				many += size(l[h].Order)
				if l[h].Kind == api.PageFree {
					freePages += size(l[h].Order)
				}
			}
		}
		if many != len(l) || freePages != frame.Free(l) {
			t.Error("pages of blocks", many, len(l), freePages, frame.Free(l))
		}
	}
}

func TestSameAnswersEachTime(t *testing.T) { // R2
	n := noise(2)
	for range 50 {
		l := n.table(1+n.next(64), 5)
		page, as := n.next(len(l)), n.any(n.next(3))
		set, e := frame.Set(l, page, as)
		h, he := frame.Head(l, page)
		many := frame.Free(l)
		frame.Set(of(free(3)), 0, out(3, 1))
		mustSet(t, slices.Clone(l), page, as, set, e)
		mustHead(t, slices.Clone(l), page, head{h, he})
		mustFree(t, slices.Clone(l), many)
	}
}

func TestHugeTablesThatMayNotBe(t *testing.T) { // R1
	mustNotBe(t, make([]api.Page, 1<<20))
	mustNotBe(t, slices.Repeat([]api.Page{inside}, 1<<20))
	mustNotBe(t, slices.Repeat([]api.Page{{Kind: 1 << 40, Order: -1 << 40, Cache: 1 << 40}}, 5000))
}

func TestExamples(t *testing.T) { // the chapter's examples
	mustCheck(t, table("1F I F"), api.OK)
	mustCheck(t, table("F 1F I"), api.ErrFrame)
	mustCheck(t, table("F I"), api.ErrFrame)
	mustCheck(t, nil, api.ErrFrame)
	mustHead(t, table("1A I F"), 1, head{0, api.OK})
	mustFree(t, table("1A I F"), 1)
	mustSet(t, table("F F F"), 0, out(1, 1), table("1A I F"), api.OK)
	mustNotSet(t, table("1F I F"), 0, free(0), api.ErrFrame)
}
