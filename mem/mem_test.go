package mem_test

import (
	"math"
	"math/big"
	"slices"
	"testing"

	"wainscot/api"
	"wainscot/mem"
)

// The tests hold the package against the chapter said a second time, in another way: words in a map, in which a missing one is 0, and sums of big numbers.

// model is a memory of the tests.
type model struct {
	size, count int
	words       map[int]uint64
}

func newModel(size int) *model {
	return &model{size: size, words: map[int]uint64{}}
}

// access is one call of a memory.
type access struct {
	what                         string
	at                           int
	old, second, to, other, gain uint64
}

// result is what a call answers: fields that it does not answer are zero.
type result struct {
	v  uint64
	is bool
	e  api.Errno
}

// load, store, cas, cas2 and add are accesses.
func load(at int) access            { return access{what: "Load", at: at} }
func store(at int, v uint64) access { return access{what: "Store", at: at, to: v} }
func cas(at int, old, to uint64) access {
	return access{what: "Cas", at: at, old: old, to: to}
}
func cas2(at int, old, second, to, other uint64) access {
	return access{what: "Cas2", at: at, old: old, second: second, to: to, other: other}
}
func add(at int, by uint64) access { return access{what: "Add", at: at, gain: by} }

// named are the indices that an access names.
func (a access) named() []int {
	if a.what == "Cas2" {
		return []int{a.at, a.at + 1}
	}
	return []int{a.at}
}

// do is an access to a memory.
func do(m *mem.Mem, a access) (r result) {
	switch a.what {
	case "Load":
		r.v, r.e = m.Load(a.at)
	case "Store":
		r.e = m.Store(a.at, a.to)
	case "Cas":
		r.is, r.e = m.Cas(a.at, a.old, a.to)
	case "Cas2":
		r.is, r.e = m.Cas2(a.at, a.old, a.second, a.to, a.other)
	case "Add":
		r.v, r.e = m.Add(a.at, a.gain)
	}
	return r
}

// do is the same access to the model.
func (m *model) do(a access) result {
	for _, at := range a.named() {
		if at < 0 || at >= m.size {
			return result{e: api.ErrRange}
		}
	}
	m.count++
	was := m.words[a.at]
	switch a.what {
	case "Store":
		m.words[a.at] = a.to
	case "Cas":
		if was != a.old {
			return result{}
		}
		m.words[a.at] = a.to
		return result{is: true}
	case "Cas2":
		if was != a.old || m.words[a.at+1] != a.second {
			return result{}
		}
		m.words[a.at], m.words[a.at+1] = a.to, a.other
		return result{is: true}
	case "Load":
		return result{v: was}
	case "Add":
		m.words[a.at] = sum(was, a.gain)
		return result{v: was}
	}
	return result{}
}

// sum is that of two numbers modulo 2^64.
func sum(a, b uint64) uint64 {
	n := new(big.Int).Add(new(big.Int).SetUint64(a), new(big.Int).SetUint64(b))
	return n.Mod(n, new(big.Int).Lsh(big.NewInt(1), 64)).Uint64()
}

// all are the words of the model.
func (m *model) all() []uint64 {
	l := make([]uint64, m.size)
	for at, v := range m.words {
		l[at] = v
	}
	return l
}

// made is a new memory with these words, and the model of it.
func made(t *testing.T, words ...uint64) (*mem.Mem, *model) {
	t.Helper()
	m, e := mem.New(len(words))
	if e != api.OK {
		t.Fatalf("New(%d): %d", len(words), e)
	}
	o := newModel(len(words))
	for at, v := range words {
		both(t, m, o, store(at, v))
	}
	return m, o
}

// both does an access to a memory and to the model, and holds results and states against each other.
func both(t *testing.T, m *mem.Mem, o *model, a access) result {
	t.Helper()
	got, want := do(m, a), o.do(a)
	if got != want {
		t.Errorf("%v: %v, not %v", a, got, want)
	}
	mustStand(t, m, o, a)
	return got
}

// mustStand holds the state of a memory against the model.
func mustStand(t *testing.T, m *mem.Mem, o *model, after access) {
	t.Helper()
	if !slices.Equal(m.Words(), o.all()) {
		t.Fatalf("after %v: %v, not %v", after, m.Words(), o.all())
	}
	if m.Count() != o.count || m.Len() != o.size {
		t.Fatalf("after %v: %d accesses, %d words, not %d and %d", after, m.Count(), m.Len(), o.count, o.size)
	}
}

// mustTell holds the result of an access against what it has to be.
func mustTell(t *testing.T, m *mem.Mem, a access, want result) {
	t.Helper()
	if got := do(m, a); got != want {
		t.Errorf("%v: %v, not %v", a, got, want)
	}
}

// most is the greatest word.
const most = math.MaxUint64

// someWords are words with limits of kinds among them.
func someWords() []uint64 {
	return []uint64{0, 1, 2, 7, 255, 256, math.MaxInt32, math.MaxUint32, math.MaxUint32 + 1, math.MaxInt64, math.MaxInt64 + 1, most - 1, most}
}

// indices are some within and outside of a memory.
func indices(size int) []int {
	return []int{math.MinInt, math.MinInt + 1, -4096, -2, -1, 0, 1, size / 2, size - 3, size - 2, size - 1, size, size + 1, size + 2, 2 * size, 4095, 4096, 4097, 1 << 32, math.MaxInt - 1, math.MaxInt}
}

// each is an access of each kind at an index; those that compare find zeros, or do not.
func each(at int) []access {
	return []access{load(at), store(at, 5), cas(at, 5, 6), cas(at, 5, 7), add(at, 3), add(at, most), store(at, 0), cas2(at, 0, 0, 0, 0), cas2(at, 1, 0, 2, 2), cas2(at, 0, 1, 2, 2)}
}

// noise gives numbers without a pattern, the same ones each time.
type noise uint64

func (n *noise) next(below int) int {
	*n = *n*6364136223846793005 + 1442695040888963407
	return int(uint64(*n)>>33) % below
}

// access is any one, most of them within the memory, with few different words, so that comparisons often find them.
func (n *noise) access(size int) access {
	at := n.next(size+2) - 1
	word := func() uint64 { return []uint64{0, 1, most}[n.next(3)] }
	switch n.next(6) {
	case 0:
		return load(at)
	case 1:
		return store(at, word())
	case 2:
		return cas(at, word(), word())
	case 3, 4:
		return cas2(at, word(), word(), word(), word())
	}
	return add(at, word())
}

func TestSizes(t *testing.T) { // P3.1
	for _, words := range []int{math.MinInt, math.MinInt + 1, -4096, -2, -1, 0, 1, 2, 3, 64, 4095, 4096, 4097, 4098, 8192, 1 << 32, math.MaxInt - 1, math.MaxInt} {
		m, e := mem.New(words)
		if words < 1 || words > 4096 {
			if m != nil || e != api.ErrRange {
				t.Errorf("New(%d): %v, %d", words, m, e)
			}
			continue
		}
		if m == nil || e != api.OK {
			t.Fatalf("New(%d): %v, %d", words, m, e)
		}
		if m.Len() != words || m.Count() != 0 || !slices.Equal(m.Words(), make([]uint64, words)) {
			t.Errorf("New(%d): %d words, %d accesses, %v", words, m.Len(), m.Count(), m.Words())
		}
	}
}

func TestEverySize(t *testing.T) { // P3.1
	for words := 1; words <= api.MaxWords; words++ {
		m, e := mem.New(words)
		if e != api.OK || m.Len() != words || len(m.Words()) != words {
			t.Fatalf("New(%d): %d, %d words", words, e, m.Len())
		}
		mustTell(t, m, store(words-1, 1), result{})
		mustTell(t, m, store(words, 1), result{e: api.ErrRange})
	}
}

func TestNoMemory(t *testing.T) { // P3.1, R1
	var zero mem.Mem
	for _, m := range []*mem.Mem{nil, {}, new(mem.Mem), &zero} {
		for _, at := range append(indices(1), indices(4096)...) {
			for _, a := range each(at) {
				mustTell(t, m, a, result{e: api.ErrNil})
			}
		}
		if m.Len() != 0 || m.Count() != 0 || len(m.Words()) != 0 {
			t.Errorf("%d words, %d accesses, %v", m.Len(), m.Count(), m.Words())
		}
	}
}

func TestWordsAndLen(t *testing.T) { // P3.1
	m, o := made(t, someWords()...)
	if !slices.Equal(m.Words(), someWords()) || m.Len() != len(someWords()) {
		t.Errorf("%v", m.Words())
	}
	mustStand(t, m, o, access{})
}

func TestCount(t *testing.T) { // P3.1
	m, _ := mem.New(2)
	for i, a := range []struct {
		do    access
		count int
	}{
		{load(0), 1}, {load(1), 2}, {load(2), 2}, {load(-1), 2},
		{store(0, 5), 3}, {store(0, 5), 4}, {store(2, 5), 4}, {store(-1, 5), 4},
		{cas(0, 5, 6), 5}, {cas(0, 5, 6), 6}, {cas(2, 5, 6), 6}, {cas(-1, 5, 6), 6},
		{cas2(0, 6, 0, 7, 8), 7}, {cas2(0, 6, 0, 7, 8), 8}, {cas2(0, 7, 0, 9, 9), 9}, {cas2(0, 6, 8, 9, 9), 10}, {cas2(1, 8, 0, 9, 9), 10}, {cas2(-1, 0, 7, 9, 9), 10},
		{add(0, 0), 11}, {add(0, 1), 12}, {add(2, 1), 12}, {add(-1, 1), 12},
	} {
		do(m, a.do)
		m.Len()
		m.Words()
		m.Count()
		if m.Count() != a.count {
			t.Fatalf("%d, %v: %d accesses, not %d", i, a.do, m.Count(), a.count)
		}
	}
}

func TestCountsOfTwoMemories(t *testing.T) { // P3.1, R2
	a, _ := mem.New(3)
	b, _ := mem.New(3)
	do(a, store(1, 9))
	do(a, load(1))
	do(b, load(1))
	if a.Count() != 2 || b.Count() != 1 || !slices.Equal(b.Words(), []uint64{0, 0, 0}) {
		t.Errorf("%d and %d accesses, %v", a.Count(), b.Count(), b.Words())
	}
}

func TestIndices(t *testing.T) { // P3.2, P3.3, P3.4, R1
	for _, size := range []int{1, 2, 3, 10, 4095, 4096} {
		m, e := mem.New(size)
		if e != api.OK {
			t.Fatalf("New(%d): %d", size, e)
		}
		o := newModel(size)
		for _, at := range indices(size) {
			for _, a := range each(at) {
				both(t, m, o, a)
			}
		}
	}
}

func TestLoadAndStore(t *testing.T) { // P3.2
	for at := range someWords() {
		m, o := made(t, someWords()...)
		for _, v := range someWords() {
			if got := both(t, m, o, store(at, v)); got != (result{}) {
				t.Errorf("Store(%d, %d): %v", at, v, got)
			}
			if got := both(t, m, o, load(at)); got != (result{v: v}) {
				t.Errorf("Load(%d): %v, not %d", at, got, v)
			}
		}
	}
}

func TestLoadOutside(t *testing.T) { // P3.2
	m, _ := made(t, 7, 8, 9)
	for _, at := range []int{math.MinInt, -3, -1, 3, 4, math.MaxInt} {
		for _, a := range []access{load(at), store(at, 1), add(at, 1)} {
			mustTell(t, m, a, result{e: api.ErrRange})
		}
	}
	if !slices.Equal(m.Words(), []uint64{7, 8, 9}) || m.Count() != 3 {
		t.Errorf("%v, %d accesses", m.Words(), m.Count())
	}
}

func TestAdd(t *testing.T) { // P3.2
	for _, v := range someWords() {
		for _, by := range someWords() {
			m, o := made(t, 11, v, 12)
			if got := both(t, m, o, add(1, by)); got != (result{v: v}) {
				t.Errorf("Add of %d to %d: %v", by, v, got)
			}
			if got := both(t, m, o, load(1)); got != (result{v: sum(v, by)}) {
				t.Errorf("%d and %d more: %v", v, by, got)
			}
		}
	}
}

func TestAddBeyondTheGreatest(t *testing.T) { // P3.2
	m, _ := made(t, 5, most, 5)
	mustTell(t, m, add(1, 1), result{v: most})
	mustTell(t, m, add(1, most), result{v: 0})
	mustTell(t, m, add(1, most), result{v: most})
	mustTell(t, m, add(1, 3), result{v: most - 1})
	if want := []uint64{5, 1, 5}; !slices.Equal(m.Words(), want) {
		t.Errorf("%v, not %v", m.Words(), want)
	}
}

func TestCas(t *testing.T) { // P3.3
	for _, v := range someWords() {
		for _, old := range someWords() {
			m, _ := made(t, v, v, v)
			mustTell(t, m, cas(1, old, 77), result{is: v == old})
			want := []uint64{v, v, v}
			if v == old {
				want[1] = 77
			}
			if !slices.Equal(m.Words(), want) {
				t.Errorf("%d, Cas(1, %d, 77): %v", v, old, m.Words())
			}
		}
	}
}

func TestCasToWhatItIs(t *testing.T) { // P3.3
	m, o := made(t, 4, 4)
	both(t, m, o, cas(0, 4, 4))
	mustTell(t, m, cas(0, 4, 4), result{is: true})
	mustTell(t, m, cas(0, 5, 5), result{})
	mustTell(t, m, cas2(0, 4, 4, 4, 4), result{is: true})
	mustTell(t, m, cas2(0, 4, 5, 4, 5), result{})
}

func TestCas2(t *testing.T) { // P3.3
	for _, old := range []uint64{0, 3, 4, most} {
		for _, second := range []uint64{0, 3, 4, most} {
			for at := range 3 {
				m, o := made(t, 3, 4, 3, 4)
				both(t, m, o, cas2(at, old, second, 8, 9))
			}
		}
	}
}

func TestCas2FindsBothOneOrNone(t *testing.T) { // P3.3
	for _, c := range []struct {
		do   access
		is   bool
		want []uint64
	}{
		{cas2(1, 2, 3, 8, 9), true, []uint64{1, 8, 9, 4}},
		{cas2(1, 2, 2, 8, 9), false, []uint64{1, 2, 3, 4}}, // the first one alone
		{cas2(1, 3, 3, 8, 9), false, []uint64{1, 2, 3, 4}}, // the second one alone
		{cas2(1, 3, 2, 8, 9), false, []uint64{1, 2, 3, 4}}, // both, but exchanged
		{cas2(1, 8, 9, 2, 3), false, []uint64{1, 2, 3, 4}}, // neither
		{cas2(0, 1, 2, 8, 9), true, []uint64{8, 9, 3, 4}},
		{cas2(2, 3, 4, 8, 9), true, []uint64{1, 2, 8, 9}}, // the last two
	} {
		m, _ := made(t, 1, 2, 3, 4)
		mustTell(t, m, c.do, result{is: c.is})
		if !slices.Equal(m.Words(), c.want) {
			t.Errorf("%v: %v, not %v", c.do, m.Words(), c.want)
		}
	}
}

func TestCas2AtTheEnd(t *testing.T) { // P3.3
	m, o := made(t, 1, 2, 0)
	for _, at := range []int{math.MinInt, -2, -1, 2, 3, math.MaxInt - 1, math.MaxInt} {
		for _, old := range []uint64{0, 1, 2} {
			mustTell(t, m, cas2(at, old, 0, 7, 7), result{e: api.ErrRange})
			mustTell(t, m, cas2(at, 0, old, 7, 7), result{e: api.ErrRange})
		}
	}
	mustStand(t, m, o, access{})
	one, _ := mem.New(1)
	mustTell(t, one, cas2(0, 0, 0, 1, 1), result{e: api.ErrRange})
	mustTell(t, one, cas(0, 0, 1), result{is: true})
	full, _ := mem.New(4096)
	mustTell(t, full, cas2(4095, 0, 0, 1, 1), result{e: api.ErrRange})
	mustTell(t, full, cas2(4094, 0, 0, 1, 1), result{is: true})
}

func TestCasOutside(t *testing.T) { // P3.3
	m, o := made(t, 0, 0)
	for _, at := range []int{math.MinInt, -1, 2, 3, math.MaxInt} {
		mustTell(t, m, cas(at, 0, 7), result{e: api.ErrRange})
		mustTell(t, m, cas(at, 1, 7), result{e: api.ErrRange})
	}
	mustStand(t, m, o, access{})
}

func TestWordsAreNewMemory(t *testing.T) { // P3.4
	m, o := made(t, 1, 2, 3)
	got, other := m.Words(), m.Words()
	for i := range got {
		got[i] = 99
	}
	got = append(got[:0], 98)
	if !slices.Equal(other, []uint64{1, 2, 3}) {
		t.Errorf("two results are one memory: %v", other)
	}
	mustStand(t, m, o, access{})
	room := other[:cap(other)]
	clear(room)
	mustStand(t, m, o, access{})
	last := m.Words()
	both(t, m, o, store(1, 50))
	both(t, m, o, cas2(0, 1, 50, 60, 61))
	if !slices.Equal(last, []uint64{1, 2, 3}) {
		t.Errorf("a result changed with the memory: %v", last)
	}
}

func TestErrorsChangeNothing(t *testing.T) { // P3.4
	m, o := made(t, someWords()...)
	for _, at := range []int{math.MinInt, -1, len(someWords()), math.MaxInt} {
		for _, a := range each(at) {
			if got := both(t, m, o, a); got != (result{e: api.ErrRange}) {
				t.Errorf("%v: %v", a, got)
			}
		}
	}
	if m.Count() != len(someWords()) {
		t.Errorf("%d accesses", m.Count())
	}
}

// orders are all orders of some numbers.
func orders(l []uint64) [][]uint64 {
	if len(l) == 0 {
		return [][]uint64{nil}
	}
	var all [][]uint64
	for i := range l {
		rest := slices.Concat(l[:i], l[i+1:])
		for _, o := range orders(rest) {
			all = append(all, append([]uint64{l[i]}, o...))
		}
	}
	return all
}

func TestOrderOfAdds(t *testing.T) { // P3.5
	for _, l := range [][]uint64{{1, 2, 3}, {most, most, 1, 5}, {1 << 63, 1 << 63, 7, 0, most - 3}} {
		want := uint64(0)
		for _, by := range l {
			want = sum(want, by)
		}
		for _, order := range orders(l) {
			m, _ := mem.New(3)
			for _, by := range order {
				do(m, add(1, by))
			}
			if !slices.Equal(m.Words(), []uint64{0, want, 0}) {
				t.Errorf("Adds of %v: %v, not %d", order, m.Words(), want)
			}
		}
	}
}

func TestOneOfSeveralSucceeds(t *testing.T) { // P3.5
	for first := range 8 {
		for _, v := range someWords() {
			m, _ := made(t, 3, v, 3)
			var read [8]uint64
			for cpu := range read {
				read[cpu], _ = m.Load(1)
			}
			done := 0
			for i := range read {
				cpu := (first + i) % len(read)
				if is, e := m.Cas(1, read[cpu], v+1+uint64(cpu)); is && e == api.OK {
					done++
				}
			}
			if want := []uint64{3, v + 1 + uint64(first), 3}; done != 1 || !slices.Equal(m.Words(), want) {
				t.Errorf("%d succeeded: %v, not %v", done, m.Words(), want)
			}
		}
	}
}

func TestOneOfSeveralPairsSucceeds(t *testing.T) { // P3.5
	for first := range 8 {
		m, _ := made(t, 3, 4, 5)
		done := 0
		for i := range 8 {
			cpu := uint64((first + i) % 8)
			if is, _ := m.Cas2(1, 4, 5, 4+cpu, 6); is {
				done++
			}
		}
		if want := []uint64{3, 4 + uint64(first), 6}; done != 1 || !slices.Equal(m.Words(), want) {
			t.Errorf("%d succeeded: %v, not %v", done, m.Words(), want)
		}
	}
}

func TestOtherWordsStay(t *testing.T) { // P3.6
	for size := 1; size <= 6; size++ {
		for at := range size {
			for _, a := range []access{load(at), store(at, 50), cas(at, 100+uint64(at), 50), cas(at, 1, 50), add(at, 50), cas2(at, 100+uint64(at), 101+uint64(at), 50, 51), cas2(at, 1, 1, 50, 51)} {
				var was []uint64
				for i := range size {
					was = append(was, 100+uint64(i))
				}
				m, o := made(t, was...)
				both(t, m, o, a)
				for i, v := range m.Words() {
					if !slices.Contains(a.named(), i) && v != was[i] {
						t.Errorf("%v: word %d is %d", a, i, v)
					}
				}
			}
		}
	}
}

func TestManyAccesses(t *testing.T) { // P3.2, P3.3, P3.6, R2
	for seed := range 40 {
		n := noise(seed)
		size := 1 + seed%7
		m, _ := mem.New(size)
		again, _ := mem.New(size)
		o := newModel(size)
		for range 2000 {
			a := n.access(size)
			if got := both(t, m, o, a); got != do(again, a) {
				t.Fatalf("%v: another result the second time", a)
			}
		}
		mustStand(t, again, o, access{})
	}
}

func TestExamples(t *testing.T) {
	m, e := mem.New(2)
	if e != api.OK {
		t.Fatal(e)
	}
	mustTell(t, m, store(1, 5), result{})
	mustTell(t, m, cas(1, 5, 6), result{is: true})
	mustTell(t, m, cas(1, 5, 7), result{})
	mustTell(t, m, load(1), result{v: 6})
	mustTell(t, m, add(1, 3), result{v: 6})
	if m.Count() != 5 {
		t.Errorf("%d accesses", m.Count())
	}
	mustTell(t, m, cas2(0, 0, 9, 1, 1), result{is: true})
	if !slices.Equal(m.Words(), []uint64{1, 1}) {
		t.Errorf("%v", m.Words())
	}
	mustTell(t, m, cas2(1, 9, 0, 1, 1), result{e: api.ErrRange})
}
