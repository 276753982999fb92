package segs_test

import (
	"math"
	"slices"
	"strconv"
	"strings"
	"testing"

	"wainscot/api"
	"wainscot/segs"
)

// The tests hold the package against the chapter said a second time, in another way: the order of Ats is that of each two records, Ready asks every record by itself, and Next is the least At of all.

// beyond is the least number that is too great.
const beyond = 9007199254740992

// records are some, written as in the chapter: 5/1 6/2.
func records(text string) []api.Wait {
	var l []api.Wait
	for _, word := range strings.Fields(text) {
		id, at, _ := strings.Cut(word, "/")
		l = append(l, api.Wait{Id: number(id), At: number(at)})
	}
	return l
}

// number is one that is written, and one that no test asks for if it is not.
func number(text string) int {
	n, err := strconv.Atoi(text)
	if err != nil {
		return math.MinInt
	}
	return n
}

// row is so many records, of which some that stand together have one At.
func row(many, together int) []api.Wait {
	var l []api.Wait
	for i := range many {
		l = append(l, api.Wait{Id: 1000 + i, At: 3 + i/together})
	}
	return l
}

// with is a list in which another record stands at a place.
func with(l []api.Wait, place int, x api.Wait) []api.Wait {
	other := slices.Clone(l)
	other[place] = x
	return other
}

// isBetween tells whether a number is one of those from one to another.
func isBetween(n, from, to int) bool {
	return !(n < from || to < n)
}

// wantCheck is what Check has to return.
func wantCheck(l []api.Wait) api.Errno {
	if len(l) >= 257 {
		return api.ErrLimit
	}
	for i, x := range l {
		if !isBetween(x.Id, 0, beyond-1) || !isBetween(x.At, 1, beyond-1) {
			return api.ErrArg
		}
		for _, y := range l[i+1:] {
			if y.At < x.At {
				return api.ErrArg
			}
		}
	}
	return api.OK
}

// wantAdd is what Add has to return.
func wantAdd(l []api.Wait, x api.Wait) ([]api.Wait, api.Errno) {
	if e := wantCheck(l); e != api.OK {
		return nil, e
	}
	if len(l) == 256 {
		return nil, api.ErrLimit
	}
	longer := make([]api.Wait, len(l)+1)
	copy(longer, l)
	longer[len(l)] = x
	if wantCheck(longer) != api.OK {
		return nil, api.ErrArg
	}
	return longer, api.OK
}

// answer is what Ready returns.
type answer struct {
	ids  []int
	rest []api.Wait
	e    api.Errno
}

// isLike tells whether two answers are the same.
func (a answer) isLike(b answer) bool {
	return slices.Equal(a.ids, b.ids) && slices.Equal(a.rest, b.rest) && a.e == b.e
}

// wantReady is what Ready has to return.
func wantReady(l []api.Wait, done int) answer {
	a := answer{e: wantCheck(l)}
	if a.e != api.OK {
		return a
	}
	for _, x := range l {
		if x.At <= done {
			a.ids = append(a.ids, x.Id)
		} else {
			a.rest = append(a.rest, x)
		}
	}
	return a
}

// wantNext is what Next has to return.
func wantNext(l []api.Wait) int {
	if len(l) == 0 || wantCheck(l) != api.OK {
		return 0
	}
	next := l[0].At
	for _, x := range l {
		next = min(next, x.At)
	}
	return next
}

// lent is a list that a test hands to the program: it has room behind its end, with records that nobody may touch.
type lent struct {
	all  []api.Wait // with the room
	many int
	was  []api.Wait
}

// lend is a list with room for some more.
func lend(l []api.Wait) lent {
	all := append(slices.Clone(l), api.Wait{Id: -71, At: -72}, api.Wait{Id: -73, At: -74}, api.Wait{Id: -75, At: -76})
	return lent{all, len(l), slices.Clone(all)}
}

// list is what is handed over.
func (a lent) list() []api.Wait { return a.all[:a.many] }

// mustStay holds the list and its room against what they were.
func (a lent) mustStay(t *testing.T, call string) {
	t.Helper()
	if !slices.Equal(a.all, a.was) {
		t.Fatalf("%s has made %v of its argument %v", call, a.all, a.was)
	}
}

// spoil writes all over the memory of a result, its unused capacity included. Nothing may come of that.
func spoil[T any](l []T, with T) {
	all := l[:cap(l)]
	for at := range all {
		all[at] = with
	}
}

// spoilBoth writes all over the memory of both lists of an answer.
func (a answer) spoilBoth() {
	spoil(a.ids, -81)
	spoil(a.rest, api.Wait{Id: -82, At: -83})
}

// brief is a list as it is told of: of a long one its ends.
func brief(l []api.Wait) string {
	var words []string
	for i, x := range l {
		if len(l) > 20 && i == 5 {
			words = append(words, ".. "+strconv.Itoa(len(l))+" in total ..")
		}
		if len(l) <= 20 || i < 5 || i >= len(l)-5 {
			words = append(words, strconv.Itoa(x.Id)+"/"+strconv.Itoa(x.At))
		}
	}
	return "[" + strings.Join(words, " ") + "]"
}

// holdCheck holds Check of a list against the model, and returns what it has to return.
func holdCheck(t *testing.T, l []api.Wait) api.Errno {
	t.Helper()
	a := lend(l)
	want := wantCheck(l)
	if got := segs.Check(a.list()); got != want {
		t.Fatalf("Check(%s): %d, not %d", brief(l), got, want)
	}
	a.mustStay(t, "Check")
	return want
}

// holdAdd holds Add against the model, and returns what it has to return.
func holdAdd(t *testing.T, l []api.Wait, x api.Wait) ([]api.Wait, api.Errno) {
	t.Helper()
	a := lend(l)
	want, wantE := wantAdd(l, x)
	got, e := segs.Add(a.list(), x)
	if !slices.Equal(got, want) || e != wantE {
		t.Fatalf("Add(%s, %v): %s, %d, not %s, %d", brief(l), x, brief(got), e, brief(want), wantE)
	}
	spoil(got, api.Wait{Id: -91, At: -92})
	a.mustStay(t, "Add, or writing into what it returned,")
	return want, wantE
}

// holdReady holds Ready against the model, and returns what it has to return.
func holdReady(t *testing.T, l []api.Wait, done int) answer {
	t.Helper()
	a := lend(l)
	want := wantReady(l, done)
	got := ready(a.list(), done)
	if !got.isLike(want) {
		t.Fatalf("Ready(%s, %d): %v %s %d, not %v %s %d", brief(l), done, got.ids, brief(got.rest), got.e, want.ids, brief(want.rest), want.e)
	}
	got.spoilBoth()
	a.mustStay(t, "Ready, or writing into what it returned,")
	return want
}

// holdNext holds Next against the model.
func holdNext(t *testing.T, l []api.Wait) int {
	t.Helper()
	a := lend(l)
	want := wantNext(l)
	if got := segs.Next(a.list()); got != want {
		t.Fatalf("Next(%s): %d, not %d", brief(l), got, want)
	}
	a.mustStay(t, "Next")
	return want
}

// holdAll holds all calls of a list against the model.
func holdAll(t *testing.T, l []api.Wait, xs []api.Wait, dones []int) {
	t.Helper()
	holdCheck(t, l)
	holdNext(t, l)
	for _, x := range xs {
		holdAdd(t, l, x)
	}
	for _, done := range dones {
		holdReady(t, l, done)
	}
}

// ready is Ready as an answer.
func ready(l []api.Wait, done int) answer {
	ids, rest, e := segs.Ready(l, done)
	return answer{ids, rest, e}
}

// mustCheck holds Check against its result, which the test says itself.
func mustCheck(t *testing.T, l []api.Wait, want api.Errno) {
	t.Helper()
	if holdCheck(t, l) != want {
		t.Fatalf("Check(%s) is not to be %d", brief(l), want)
	}
}

// mustAdd holds Add against its result, which the test says itself.
func mustAdd(t *testing.T, l []api.Wait, x api.Wait, want []api.Wait) {
	t.Helper()
	if got, e := holdAdd(t, l, x); !slices.Equal(got, want) || e != api.OK {
		t.Fatalf("Add(%s, %v) is not to be %s", brief(l), x, brief(want))
	}
}

// mustRefuse holds Add against its error, which the test says itself.
func mustRefuse(t *testing.T, l []api.Wait, x api.Wait, want api.Errno) {
	t.Helper()
	if got, e := holdAdd(t, l, x); len(got) != 0 || e != want {
		t.Fatalf("Add(%s, %v) is not to be refused with %d", brief(l), x, want)
	}
}

// mustReady holds Ready against its results, which the test says itself.
func mustReady(t *testing.T, text string, done int, ids []int, rest string) {
	t.Helper()
	if got := holdReady(t, records(text), done); !got.isLike(answer{ids, records(rest), api.OK}) {
		t.Fatalf("Ready(%s, %d) is not to be %v and %s", text, done, ids, rest)
	}
}

// mustNext holds Next against its result, which the test says itself.
func mustNext(t *testing.T, l []api.Wait, want int) {
	t.Helper()
	if holdNext(t, l) != want {
		t.Fatalf("Next(%s) is not to be %d", brief(l), want)
	}
}

// badIds are Ids that a record may not have, goodIds some that it may.
func badIds() []int {
	return []int{math.MinInt, math.MinInt + 1, -beyond, math.MinInt32, -2, -1, beyond, beyond + 1, math.MaxInt - 1, math.MaxInt}
}

func goodIds() []int {
	return []int{0, 1, 2, 255, 256, 257, math.MaxInt32, math.MaxInt32 + 1, 1 << 32, beyond - 2, beyond - 1}
}

// badAts are Ats that a record may not have, goodAts some that it may, from the least to the greatest.
func badAts() []int {
	return append(badIds(), 0)
}

func goodAts() []int {
	return goodIds()[1:]
}

// noQueues are lists that are no queues, with their errors.
func noQueues() map[api.Errno][][]api.Wait {
	return map[api.Errno][][]api.Wait{
		api.ErrArg: {
			records("-1/1"), records("5/0"), records("-1/0"), records("9007199254740992/1"), records("5/9007199254740992"),
			records("5/2 6/1"), records("5/1 6/2 7/1"), records("5/1 -1/1 7/1"), records("5/1 6/0 7/1"), records("5/1 6/1 7/-1"),
			with(row(256, 3), 0, api.Wait{Id: -1, At: 1}), with(row(256, 3), 128, api.Wait{Id: 5, At: 1}), with(row(256, 3), 255, api.Wait{Id: 5, At: 0}),
		},
		api.ErrLimit: {
			row(257, 1), row(257, 257), row(258, 3), row(1000, 10),
			with(row(257, 3), 0, api.Wait{Id: -1, At: 0}), with(row(257, 3), 256, api.Wait{Id: 5, At: 1}), make([]api.Wait, 257),
		},
	}
}

// queues are lists that are queues, short and long ones.
func queues() [][]api.Wait {
	return [][]api.Wait{
		nil, {}, records("0/1"), records("5/3"), records("9007199254740991/9007199254740991"),
		records("5/1 6/1"), records("5/1 6/2"), records("5/5 5/5 5/5"), records("9/2 8/2 8/4 7/4 9/4 0/7"),
		row(17, 1), row(40, 7), row(255, 255), row(255, 2), row(256, 1), row(256, 3), row(256, 256),
	}
}

// dones are numbers for Ready: the ends of int, and those around each At of a list.
func dones(l []api.Wait) []int {
	all := []int{math.MinInt, math.MinInt + 1, -beyond, -1, 0, 1, 2, math.MaxInt32, 1 << 32, beyond - 1, beyond, math.MaxInt - 1, math.MaxInt}
	for _, x := range l {
		all = append(all, x.At-1, x.At, x.At+1)
	}
	slices.Sort(all)
	return slices.Compact(all)
}

// shortQueues are all queues of up to so many records whose Ats are from 1 to another number and do not decrease; the Ids tell the places, from the last to the first.
func shortQueues(many, most int) [][]api.Wait {
	all := [][]api.Wait{nil}
	for from := 0; len(all[from]) < many; from++ {
		l := all[from]
		least := 1
		if len(l) > 0 {
			least = l[len(l)-1].At
		}
		for at := least; at <= most; at++ {
			all = append(all, append(slices.Clone(l), api.Wait{Id: 50 - len(l), At: at}))
		}
	}
	return all
}

func TestLengths(t *testing.T) { // P9.1
	mustCheck(t, nil, api.OK)
	mustCheck(t, []api.Wait{}, api.OK)
	for _, together := range []int{1, 2, 300} {
		for many := range 600 {
			want := api.OK
			if many > 256 {
				want = api.ErrLimit
			}
			mustCheck(t, row(many, together), want)
		}
	}
}

func TestTheLengthComesFirst(t *testing.T) { // P9.1
	for _, bad := range []api.Wait{{Id: -1, At: 3}, {Id: beyond, At: 3}, {Id: 5, At: 0}, {Id: 5, At: beyond}, {Id: 5, At: 1}, {Id: -1, At: 0}} {
		for _, place := range []int{0, 1, 128, 254, 255} {
			if place == 0 && bad == (api.Wait{Id: 5, At: 1}) {
				continue // behind no other record this one may be
			}
			mustCheck(t, with(row(256, 2), place, bad), api.ErrArg)
			mustCheck(t, with(row(257, 2), place, bad), api.ErrLimit)
		}
		mustCheck(t, with(row(257, 2), 256, bad), api.ErrLimit)
	}
	mustCheck(t, make([]api.Wait, 256), api.ErrArg)
	mustCheck(t, make([]api.Wait, 257), api.ErrLimit)
}

func TestIds(t *testing.T) { // P9.1
	for _, many := range []int{1, 2, 3, 255, 256} {
		for _, place := range []int{0, many / 2, many - 1} {
			at := row(many, 2)[place].At
			for _, id := range goodIds() {
				mustCheck(t, with(row(many, 2), place, api.Wait{Id: id, At: at}), api.OK)
			}
			for _, id := range badIds() {
				mustCheck(t, with(row(many, 2), place, api.Wait{Id: id, At: at}), api.ErrArg)
			}
		}
	}
}

func TestAts(t *testing.T) { // P9.1
	for _, at := range goodAts() {
		mustCheck(t, []api.Wait{{Id: 5, At: at}}, api.OK)
		mustCheck(t, []api.Wait{{Id: 5, At: at}, {Id: 4, At: at}}, api.OK)
		mustCheck(t, []api.Wait{{Id: 5, At: 1}, {Id: 4, At: at}, {Id: 4, At: beyond - 1}}, api.OK)
	}
	for _, at := range badAts() {
		mustCheck(t, []api.Wait{{Id: 5, At: at}}, api.ErrArg)
		mustCheck(t, []api.Wait{{Id: 5, At: at}, {Id: 4, At: at}}, api.ErrArg)
		for _, many := range []int{2, 3, 255, 256} {
			for _, place := range []int{0, many / 2, many - 1} {
				mustCheck(t, with(row(many, 2), place, api.Wait{Id: 5, At: at}), api.ErrArg)
			}
		}
	}
}

func TestAtsDoNotDecrease(t *testing.T) { // P9.1
	for i, at := range goodAts() {
		for j, next := range goodAts() {
			want := api.OK
			if j < i {
				want = api.ErrArg
			}
			mustCheck(t, []api.Wait{{Id: 5, At: at}, {Id: 6, At: next}}, want)
		}
	}
	for _, many := range []int{3, 4, 5, 255, 256} {
		for place := 1; place < many; place++ {
			l := row(many, 1)
			mustCheck(t, with(l, place, api.Wait{Id: 5, At: l[place-1].At}), api.OK)
			mustCheck(t, with(l, place, api.Wait{Id: 5, At: l[place-1].At - 1}), api.ErrArg)
		}
		for place := range many - 1 {
			l := row(many, 1)
			mustCheck(t, with(l, place, api.Wait{Id: 5, At: l[place+1].At}), api.OK)
			mustCheck(t, with(l, place, api.Wait{Id: 5, At: l[place+1].At + 1}), api.ErrArg)
		}
	}
}

func TestIdsMayRepeatAndDecrease(t *testing.T) { // P9.1
	mustCheck(t, records("5/1 5/1 5/2 5/9"), api.OK)
	mustCheck(t, records("9/1 8/1 0/1 3/2 2/2"), api.OK)
	mustCheck(t, slices.Repeat(records("0/1"), 256), api.OK)
}

// someRecords are all records of some Ids and Ats, valid ones and others.
func someRecords() []api.Wait {
	var all []api.Wait
	for _, id := range []int{-1, 0, 7, beyond - 1, beyond} {
		for _, at := range []int{math.MinInt, -1, 0, 1, 2, 3, beyond - 1, beyond, math.MaxInt} {
			all = append(all, api.Wait{Id: id, At: at})
		}
	}
	return all
}

func TestAllListsOfFewRecords(t *testing.T) { // P9.1, P9.2, R1
	all := someRecords()
	asked := []int{math.MinInt, -1, 0, 1, 2, 3, 4, beyond - 2, beyond - 1, beyond, math.MaxInt}
	holdAll(t, nil, all, asked)
	for _, x := range all {
		holdAll(t, []api.Wait{x}, all, asked)
		for _, y := range all {
			holdAll(t, []api.Wait{x, y}, all, asked)
			for _, z := range all {
				holdAll(t, []api.Wait{x, y, z}, nil, []int{2})
			}
		}
	}
}

func TestAdd(t *testing.T) { // P9.1
	mustAdd(t, nil, api.Wait{Id: 0, At: 1}, records("0/1"))
	mustAdd(t, []api.Wait{}, api.Wait{Id: 5, At: 3}, records("5/3"))
	mustAdd(t, nil, api.Wait{Id: beyond - 1, At: beyond - 1}, records("9007199254740991/9007199254740991"))
	mustAdd(t, records("5/2"), api.Wait{Id: 6, At: 2}, records("5/2 6/2"))
	mustAdd(t, records("5/2"), api.Wait{Id: 5, At: 2}, records("5/2 5/2"))
	mustAdd(t, records("5/2"), api.Wait{Id: 0, At: 3}, records("5/2 0/3"))
	mustAdd(t, records("5/1 6/1 7/2"), api.Wait{Id: 4, At: 2}, records("5/1 6/1 7/2 4/2"))
	mustAdd(t, records("5/1 6/1 7/2"), api.Wait{Id: 4, At: 9}, records("5/1 6/1 7/2 4/9"))
	mustRefuse(t, records("5/1 6/1 7/2"), api.Wait{Id: 4, At: 1}, api.ErrArg)
}

func TestAddOfNoRecord(t *testing.T) { // P9.1
	for _, l := range queues() {
		if len(l) == 256 {
			continue
		}
		for _, id := range badIds() {
			mustRefuse(t, l, api.Wait{Id: id, At: beyond - 1}, api.ErrArg)
		}
		for _, at := range badAts() {
			mustRefuse(t, l, api.Wait{Id: 5, At: at}, api.ErrArg)
			mustRefuse(t, l, api.Wait{Id: -1, At: at}, api.ErrArg)
		}
	}
}

func TestAddBehindTheLast(t *testing.T) { // P9.1
	for _, l := range queues() {
		if len(l) == 0 || len(l) == 256 {
			continue
		}
		last := l[len(l)-1].At
		for _, at := range append(goodAts(), last-1, last, last+1) {
			x := api.Wait{Id: 5, At: at}
			switch {
			case at < last, at > beyond-1:
				mustRefuse(t, l, x, api.ErrArg)
			default:
				mustAdd(t, l, x, append(slices.Clone(l), x))
			}
		}
	}
}

func TestAddToNoQueue(t *testing.T) { // P9.1
	for e, lists := range noQueues() {
		for _, l := range lists {
			for _, x := range append(someRecords(), api.Wait{Id: 5, At: 2000}) {
				mustRefuse(t, l, x, e)
			}
		}
	}
}

func TestAddUpToTheLimit(t *testing.T) { // P9.1
	for _, together := range []int{1, 5, 256} {
		var l []api.Wait
		for many, x := range row(256, together) {
			longer, e := segs.Add(l, x)
			if e != api.OK || !slices.Equal(longer, row(many+1, together)) {
				t.Fatalf("Add to %d records: %s, %d", many, brief(longer), e)
			}
			l = longer
		}
		for _, x := range append(someRecords(), api.Wait{Id: 5, At: 2000}, l[255]) {
			mustRefuse(t, l, x, api.ErrLimit)
		}
	}
}

func TestAddFailsByItsListFirst(t *testing.T) { // P9.1, Order of errors
	mustRefuse(t, row(255, 2), api.Wait{Id: -1, At: 0}, api.ErrArg)
	mustRefuse(t, row(256, 2), api.Wait{Id: -1, At: 0}, api.ErrLimit)
	mustRefuse(t, row(256, 2), api.Wait{Id: 5, At: 2000}, api.ErrLimit)
	// What is wrong with the list comes ahead of that it is full.
	mustRefuse(t, with(row(256, 2), 255, api.Wait{Id: -1, At: 2000}), api.Wait{Id: 5, At: 2000}, api.ErrArg)
	mustRefuse(t, with(row(256, 2), 0, api.Wait{Id: 5, At: 0}), api.Wait{Id: -1, At: 0}, api.ErrArg)
	mustRefuse(t, with(row(257, 2), 0, api.Wait{Id: 5, At: 0}), api.Wait{Id: -1, At: 0}, api.ErrLimit)
}

func TestReady(t *testing.T) { // P9.2
	mustReady(t, "5/3 6/3 7/3 8/5 9/8 4/8", math.MinInt, nil, "5/3 6/3 7/3 8/5 9/8 4/8")
	mustReady(t, "5/3 6/3 7/3 8/5 9/8 4/8", -1, nil, "5/3 6/3 7/3 8/5 9/8 4/8")
	mustReady(t, "5/3 6/3 7/3 8/5 9/8 4/8", 0, nil, "5/3 6/3 7/3 8/5 9/8 4/8")
	mustReady(t, "5/3 6/3 7/3 8/5 9/8 4/8", 2, nil, "5/3 6/3 7/3 8/5 9/8 4/8")
	mustReady(t, "5/3 6/3 7/3 8/5 9/8 4/8", 3, []int{5, 6, 7}, "8/5 9/8 4/8")
	mustReady(t, "5/3 6/3 7/3 8/5 9/8 4/8", 4, []int{5, 6, 7}, "8/5 9/8 4/8")
	mustReady(t, "5/3 6/3 7/3 8/5 9/8 4/8", 5, []int{5, 6, 7, 8}, "9/8 4/8")
	mustReady(t, "5/3 6/3 7/3 8/5 9/8 4/8", 7, []int{5, 6, 7, 8}, "9/8 4/8")
	mustReady(t, "5/3 6/3 7/3 8/5 9/8 4/8", 8, []int{5, 6, 7, 8, 9, 4}, "")
	mustReady(t, "5/3 6/3 7/3 8/5 9/8 4/8", 9, []int{5, 6, 7, 8, 9, 4}, "")
	mustReady(t, "5/3 6/3 7/3 8/5 9/8 4/8", math.MaxInt, []int{5, 6, 7, 8, 9, 4}, "")
}

func TestReadyOfOneRecord(t *testing.T) { // P9.2
	mustReady(t, "5/1", 0, nil, "5/1")
	mustReady(t, "5/1", 1, []int{5}, "")
	mustReady(t, "0/9007199254740991", beyond-2, nil, "0/9007199254740991")
	mustReady(t, "0/9007199254740991", beyond-1, []int{0}, "")
	mustReady(t, "0/4294967297", 1, nil, "0/4294967297")
}

func TestReadyOfNone(t *testing.T) { // P9.2
	for _, l := range [][]api.Wait{nil, {}} {
		for _, done := range dones(nil) {
			if got := holdReady(t, l, done); !got.isLike(answer{}) {
				t.Errorf("Ready of none with %d is not to be nothing", done)
			}
		}
	}
}

func TestReadyOfNoQueue(t *testing.T) { // P9.2
	for e, lists := range noQueues() {
		for _, l := range lists {
			for _, done := range dones(l) {
				if got := holdReady(t, l, done); !got.isLike(answer{e: e}) {
					t.Fatalf("Ready(%s, %d) is not to be %d", brief(l), done, e)
				}
			}
		}
	}
}

func TestReadyReturnsIdsInOrder(t *testing.T) { // P9.2
	mustReady(t, "9/1 2/1 7/1 1/2 8/2 0/3", 2, []int{9, 2, 7, 1, 8}, "0/3")
	mustReady(t, "5/1 5/1 4/1 5/2 4/2 5/3 4/3", 1, []int{5, 5, 4}, "5/2 4/2 5/3 4/3")
	mustReady(t, "5/1 5/1 4/1 5/2 4/2 5/3 4/3", 2, []int{5, 5, 4, 5, 4}, "5/3 4/3")
	mustReady(t, "5/1 5/1 4/1 5/2 4/2 5/3 4/3", 3, []int{5, 5, 4, 5, 4, 5, 4}, "")
	mustReady(t, "0/1 0/1 0/2", 1, []int{0, 0}, "0/2")
}

func TestNext(t *testing.T) { // P9.2
	mustNext(t, nil, 0)
	mustNext(t, []api.Wait{}, 0)
	for _, at := range goodAts() {
		mustNext(t, []api.Wait{{Id: 5, At: at}}, at)
		mustNext(t, []api.Wait{{Id: 5, At: at}, {Id: 6, At: at}, {Id: 7, At: beyond - 1}}, at)
	}
	mustNext(t, records("7/2 6/3 5/9"), 2)
	mustNext(t, row(256, 3), 3)
}

func TestNextOfNoQueue(t *testing.T) { // P9.2
	for _, lists := range noQueues() {
		for _, l := range lists {
			mustNext(t, l, 0)
		}
	}
}

func TestQueuesOfAllLengths(t *testing.T) { // P9.1, P9.2
	for many := range 258 {
		for _, together := range []int{1, 4, 300} {
			l := row(many, together)
			ends := []int{2, 3, 4, 3 + many/together - 1, 3 + many/together, 3 + many/together + 1}
			holdAll(t, l, []api.Wait{{Id: 5, At: 2}, {Id: 5, At: 2000}, {Id: -1, At: 2000}}, ends)
		}
	}
}

func TestReadyIsAPrefix(t *testing.T) { // P9.4
	for _, l := range append(shortQueues(6, 4), queues()...) {
		for _, done := range dones(l) {
			got := ready(l, done)
			many := len(got.ids)
			if got.e != api.OK || many+len(got.rest) != len(l) || !slices.Equal(got.rest, l[many:]) {
				t.Fatalf("Ready(%s, %d): %v, %s, %d", brief(l), done, got.ids, brief(got.rest), got.e)
			}
			for i, id := range got.ids {
				if id != l[i].Id {
					t.Fatalf("Ready(%s, %d): %v", brief(l), done, got.ids)
				}
			}
			if again := ready(got.rest, done); !again.isLike(answer{nil, got.rest, api.OK}) {
				t.Fatalf("Ready(%s, %d), and that of the others: %v, %s, %d", brief(l), done, again.ids, brief(again.rest), again.e)
			}
		}
	}
}

func TestReadyWithAGreaterNumberToo(t *testing.T) { // P9.5
	for _, l := range append(shortQueues(5, 4), queues()...) {
		all := dones(l)
		step := 1 + len(all)/40
		for i := 0; i < len(all); i += step {
			first := ready(l, all[i])
			for j := i + 1; j < len(all); j += step {
				second := ready(first.rest, all[j])
				both := answer{slices.Concat(first.ids, second.ids), second.rest, second.e}
				if at := ready(l, all[j]); !both.isLike(at) {
					t.Fatalf("Ready(%s, %d), then with %d: %v, %s; at once: %v, %s", brief(l), all[i], all[j], both.ids, brief(both.rest), at.ids, brief(at.rest))
				}
			}
		}
	}
}

func TestNoRecordIsEarlyOrLate(t *testing.T) { // P9.2, W2
	for _, l := range append(shortQueues(5, 4), queues()...) {
		for _, done := range dones(l) {
			got := ready(l, done)
			for i, x := range l {
				if isOut := i < len(got.ids); isOut != (x.At <= done) {
					t.Fatalf("Ready(%s, %d): %v, but the record %v", brief(l), done, got.ids, x)
				}
			}
			if next := segs.Next(got.rest); next != 0 && next <= done {
				t.Fatalf("Ready(%s, %d): the others wait for %d", brief(l), done, next)
			}
		}
	}
}

func TestEachRecordLeavesOnce(t *testing.T) { // P9.1, P9.2, P9.4
	var l []api.Wait
	var in, out []int
	for turn := range 3000 {
		for range turn * 7 % 5 {
			x := api.Wait{Id: len(in), At: 1 + turn + turn%3}
			if n := len(l); n > 0 {
				x.At = max(x.At, l[n-1].At)
			}
			longer, e := segs.Add(l, x)
			if len(l) == 256 {
				if len(longer) != 0 || e != api.ErrLimit {
					t.Fatalf("turn %d: Add to 256 records: %s, %d", turn, brief(longer), e)
				}
				continue
			}
			if e != api.OK {
				t.Fatalf("turn %d: Add(%s, %v): %d", turn, brief(l), x, e)
			}
			in, l = append(in, x.Id), longer
		}
		if turn%150 > 140 {
			got := ready(l, turn-2)
			out, l = append(out, got.ids...), got.rest
		}
	}
	out = append(out, ready(l, math.MaxInt).ids...)
	if len(in) < 4000 || !slices.Equal(in, out) {
		t.Errorf("of %d records %d have left, or they have left in another order", len(in), len(out))
	}
}

func TestArgumentsStay(t *testing.T) { // P9.3, Memory
	for _, l := range append(queues(), slices.Concat(noQueues()[api.ErrArg], noQueues()[api.ErrLimit])...) {
		holdAll(t, l, []api.Wait{{Id: 5, At: 1}, {Id: 5, At: 2000}, {Id: -1, At: 0}, {Id: 5, At: beyond - 1}}, dones(l))
	}
}

func TestAddReturnsNewMemory(t *testing.T) { // P9.3, Memory
	for _, l := range queues() {
		if len(l) == 256 {
			continue
		}
		a := lend(l)
		x, y := api.Wait{Id: 61, At: beyond - 1}, api.Wait{Id: 62, At: beyond - 1}
		first, _ := segs.Add(a.list(), x)
		second, _ := segs.Add(a.list(), y)
		third, _ := segs.Add(a.list(), y)
		if wantFirst := append(slices.Clone(l), x); !slices.Equal(first, wantFirst) {
			t.Fatalf("Add(%s, %v) is %s after other ones", brief(l), x, brief(first))
		}
		spoil(first, api.Wait{Id: -1, At: -1})
		spoil(third, api.Wait{Id: -2, At: -2})
		a.mustStay(t, "writing into what Add returned")
		want := append(slices.Clone(l), y)
		if !slices.Equal(second, want) {
			t.Fatalf("Add(%s, %v) is %s after writing into others", brief(l), y, brief(second))
		}
		spoil(a.all, api.Wait{Id: -3, At: -3})
		if !slices.Equal(second, want) {
			t.Fatalf("Add(%s, %v) is %s after writing into its argument", brief(l), y, brief(second))
		}
	}
}

func TestReadyReturnsNewMemory(t *testing.T) { // P9.3, Memory
	for _, l := range append(shortQueues(3, 3), queues()...) {
		for _, done := range dones(l) {
			want := wantReady(l, done)
			a := lend(l)
			first, second, third := ready(a.list(), done), ready(a.list(), done), ready(a.list(), done)
			first.spoilBoth()
			spoil(third.rest, api.Wait{Id: -2, At: -2})
			a.mustStay(t, "writing into what Ready returned")
			if !second.isLike(want) || !slices.Equal(third.ids, want.ids) {
				t.Fatalf("Ready(%s, %d) is %v, %s after writing into others", brief(l), done, second.ids, brief(second.rest))
			}
			spoil(second.ids, -4)
			if !slices.Equal(second.rest, want.rest) {
				t.Fatalf("Ready(%s, %d): the others are %s after writing into the Ids", brief(l), done, brief(second.rest))
			}
			spoil(a.all, api.Wait{Id: -3, At: -3})
			if !slices.Equal(second.rest, want.rest) || !slices.Equal(third.ids, want.ids) {
				t.Fatalf("Ready(%s, %d): the others are %s after writing into the argument", brief(l), done, brief(second.rest))
			}
		}
	}
}

func TestAppendingToResults(t *testing.T) { // P9.3, Memory
	a := lend(records("5/1 6/1 7/2 8/3"))
	longer, _ := segs.Add(a.list(), api.Wait{Id: 9, At: 3})
	none, half, all := ready(a.list(), 0), ready(a.list(), 1), ready(a.list(), 3)
	for _, l := range [][]api.Wait{longer, none.rest, half.rest, all.rest} {
		_ = append(l, records("1/7 2/7 3/7")...)
		_ = append(l[:0], records("1/7")...)
		a.mustStay(t, "appending to what was returned")
	}
	for _, ids := range [][]int{none.ids, half.ids, all.ids} {
		_ = append(ids, -1, -2, -3)
	}
	if !slices.Equal(half.ids, []int{5, 6}) || !slices.Equal(all.ids, []int{5, 6, 7, 8}) {
		t.Errorf("the Ids are %v and %v after appending to others", half.ids, all.ids)
	}
	// Each list had its first record written over by the test itself, and nothing else.
	if !slices.Equal(longer, records("1/7 6/1 7/2 8/3 9/3")) || !slices.Equal(none.rest, records("1/7 6/1 7/2 8/3")) || !slices.Equal(half.rest, records("1/7 8/3")) {
		t.Errorf("the lists are %v, %v and %v after appending to others", longer, none.rest, half.rest)
	}
}

func TestArgumentsAreNotKept(t *testing.T) { // P9.3, Memory, R2
	l := records("5/1 6/2 7/3")
	first, _ := segs.Add(l, api.Wait{Id: 8, At: 3})
	spoil(first, api.Wait{Id: 3, At: 9})
	ready(l, 2).spoilBoth()
	l[0] = api.Wait{Id: 4, At: 2}
	mustAdd(t, l, api.Wait{Id: 8, At: 3}, records("4/2 6/2 7/3 8/3"))
	mustReady(t, "4/2 6/2 7/3", 2, []int{4, 6}, "7/3")
	mustNext(t, l, 2)
}

func TestNilAndEmptyListsAreEquivalent(t *testing.T) { // Lists
	for _, l := range [][]api.Wait{nil, {}, make([]api.Wait, 0, 5), records("5/1")[:0]} {
		if e := segs.Check(l); e != api.OK {
			t.Errorf("Check of none: %d", e)
		}
		if next := segs.Next(l); next != 0 {
			t.Errorf("Next of none: %d", next)
		}
		if got, e := segs.Add(l, api.Wait{Id: 7, At: 2}); !slices.Equal(got, records("7/2")) || e != api.OK {
			t.Errorf("Add to none: %v, %d", got, e)
		}
		if got := ready(l, 9); !got.isLike(answer{}) {
			t.Errorf("Ready of none: %v", got)
		}
	}
}

func TestSameAnswersEachTime(t *testing.T) { // R2
	lists := append(queues(), slices.Concat(noQueues()[api.ErrArg], noQueues()[api.ErrLimit])...)
	for range 3 {
		for _, l := range lists {
			holdAll(t, l, []api.Wait{{Id: 5, At: 3}, {Id: -1, At: 3}, {Id: 5, At: beyond - 1}}, []int{0, 3, 5, math.MaxInt})
		}
		slices.Reverse(lists)
	}
}

func TestHugeLists(t *testing.T) { // R1
	for _, x := range []api.Wait{{Id: 1, At: 1}, {}, {Id: math.MinInt, At: math.MinInt}, {Id: math.MaxInt, At: math.MaxInt}} {
		l := slices.Repeat([]api.Wait{x}, 1<<20)
		if e := segs.Check(l); e != api.ErrLimit {
			t.Errorf("Check of %d records: %d", len(l), e)
		}
		if got, e := segs.Add(l, x); len(got) != 0 || e != api.ErrLimit {
			t.Errorf("Add to %d records: %d", len(l), e)
		}
		if got := ready(l, 1); !got.isLike(answer{e: api.ErrLimit}) {
			t.Errorf("Ready of %d records: %d", len(l), got.e)
		}
		if next := segs.Next(l); next != 0 {
			t.Errorf("Next of %d records: %d", len(l), next)
		}
	}
}

func TestExamples(t *testing.T) { // the chapter's examples
	mustAdd(t, records("5/1"), api.Wait{Id: 6, At: 1}, records("5/1 6/1"))
	mustRefuse(t, records("5/2"), api.Wait{Id: 6, At: 1}, api.ErrArg)
	mustReady(t, "5/1 6/1 7/2", 1, []int{5, 6}, "7/2")
	mustNext(t, records("7/2"), 2)
}
