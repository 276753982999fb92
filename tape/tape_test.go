package tape_test

import (
	"bytes"
	"encoding/hex"
	"math"
	"reflect"
	"slices"
	"testing"

	"wainscot/api"
	"wainscot/tape"
)

// The tests hold the package against the chapter said a second time, in another way: by places of bytes instead of a reader.

// at is a byte of a tape: 0 where it is missing.
func at(b []byte, i int) int {
	if i >= len(b) {
		return 0
	}
	return int(b[i])
}

// scriptAt is the script of bytes.
func scriptAt(b []byte) api.Script {
	s := api.Script{Cpus: at(b, 0)%8 + 1, Pages: (at(b, 1)*256+at(b, 2))%1024 + 1}
	s.Calls = make([][]api.Call, s.Cpus)
	place := 3
	for cpu := range s.Calls {
		many := at(b, place) % 65
		place++
		for i := 0; i < many; i++ {
			s.Calls[cpu] = append(s.Calls[cpu], api.Call{Op: at(b, place) % 14, A: at(b, place+1), B: at(b, place+2)*256 + at(b, place+3), C: at(b, place+4)})
			place += 5
		}
	}
	for i := place; i < len(b) && i < place+4096; i++ {
		s.Picks = append(s.Picks, int(b[i]))
	}
	return s
}

// encoded is the encoding of a valid script: its length is known ahead, and each byte is put at its place.
func encoded(s api.Script) []byte {
	size := 3 + s.Cpus + len(s.Picks)
	for _, l := range s.Calls {
		size += 5 * len(l)
	}
	b := make([]byte, size)
	b[0], b[1], b[2] = byte(s.Cpus-1), byte((s.Pages-1)/256), byte((s.Pages-1)%256)
	place := 3
	for _, l := range s.Calls {
		b[place] = byte(len(l))
		for i, c := range l {
			copy(b[place+1+5*i:], []byte{byte(c.Op), byte(c.A), byte(c.B / 256), byte(c.B % 256), byte(c.C)})
		}
		place += 1 + 5*len(l)
	}
	for i, p := range s.Picks {
		b[place+i] = byte(p)
	}
	return b
}

// alike tells whether two scripts are the same, where a nil list is an empty one.
func alike(a, b api.Script) bool {
	return a.Cpus == b.Cpus && a.Pages == b.Pages && slices.Equal(a.Picks, b.Picks) && slices.EqualFunc(a.Calls, b.Calls, slices.Equal[[]api.Call])
}

// copied shares nothing with the script.
func copied(s api.Script) api.Script {
	l := make([][]api.Call, len(s.Calls))
	for i := range s.Calls {
		l[i] = slices.Clone(s.Calls[i])
	}
	return api.Script{Cpus: s.Cpus, Pages: s.Pages, Calls: l, Picks: slices.Clone(s.Picks)}
}

// small is a valid script with three processors, two of which have calls.
func small() api.Script {
	return api.Script{Cpus: 3, Pages: 258, Calls: [][]api.Call{
		{{Op: api.OpCreate, A: 0, B: 23, C: 1}, {Op: api.OpAlloc, A: 2, B: 256, C: 3}, {Op: api.LastCall, A: 255, B: 65535, C: 255}},
		{},
		{{Op: api.OpGroup, A: 7, B: 0x1234, C: 9}},
	}, Picks: []int{0, 255, 7, 1}}
}

// great is a valid script with as much of everything as there may be.
func great() api.Script {
	s := api.Script{Cpus: 8, Pages: 1024}
	for cpu := 0; cpu < 8; cpu++ {
		s.Calls = append(s.Calls, slices.Repeat([]api.Call{{Op: 13, A: 255, B: 65535, C: 255}}, 64))
	}
	s.Picks = slices.Repeat([]int{255}, 4096)
	return s
}

// empty is a valid script with nothing but processors and pages.
func empty(cpus, pages int) api.Script {
	return api.Script{Cpus: cpus, Pages: pages, Calls: make([][]api.Call, cpus)}
}

// noise are bytes without a pattern, the same ones each time.
func noise(seed uint32, n int) []byte {
	b := make([]byte, n)
	for i := range b {
		seed = seed*1664525 + 1013904223
		b[i] = byte(seed >> 24)
	}
	return b
}

// shorts is noise with few calls a processor, so that the picks are reached.
func shorts(seed uint32, n int) []byte {
	b := noise(seed, n)
	for i := range b {
		if b[i] < 128 {
			b[i] %= 4
		}
	}
	return b
}

// someBytes are of many lengths, with and without bytes of each kind missing.
func someBytes() [][]byte {
	l := [][]byte{nil, {}, encoded(small()), encoded(great()), bytes.Repeat([]byte{255}, 9000), make([]byte, 9000)}
	for n := 0; n < 300; n++ {
		l = append(l, noise(uint32(n), n), shorts(uint32(n), n), bytes.Repeat([]byte{byte(n)}, n))
	}
	for n := 4000; n < 7000; n += 97 {
		l = append(l, noise(uint32(n), n), shorts(uint32(n), n))
	}
	return l
}

// someScripts are valid.
func someScripts() []api.Script {
	l := []api.Script{small(), great(), empty(1, 1), empty(1, 1024), empty(8, 1), empty(8, 1024), empty(5, 257)}
	for _, b := range someBytes() {
		l = append(l, scriptAt(b))
	}
	return l
}

// mustBe holds what Check and Bytes tell of a script against what they have to.
func mustBe(t *testing.T, what string, s api.Script, want api.Errno) {
	t.Helper()
	if got := tape.Check(s); got != want {
		t.Errorf("Check, %s: %d, not %d", what, got, want)
	}
	b, e := tape.Bytes(s)
	if e != want {
		t.Errorf("Bytes, %s: %d, not %d", what, e, want)
	}
	if want != api.OK && len(b) != 0 {
		t.Errorf("Bytes, %s: an error, but %d bytes", what, len(b))
	}
	if want == api.OK && !bytes.Equal(b, encoded(s)) {
		t.Errorf("Bytes, %s: not its encoding", what)
	}
}

// within is OK for a number from least to most.
func within(n, least, most int) api.Errno {
	if n < least || n > most {
		return api.ErrArg
	}
	return api.OK
}

func TestScriptsThatAreValid(t *testing.T) { // P2.1
	for _, s := range someScripts() {
		mustBe(t, "a valid script", s, api.OK)
	}
}

func TestCpusAndLists(t *testing.T) { // P2.1
	for _, cpus := range []int{math.MinInt, -255, -8, -1, 0, 1, 2, 3, 4, 5, 6, 7, 8, 9, 10, 16, 256, 257, 264, math.MaxInt} {
		for lists := 0; lists <= 20; lists++ {
			s := api.Script{Cpus: cpus, Pages: 16, Calls: make([][]api.Call, lists)}
			want := within(cpus, 1, 8)
			if lists != cpus {
				want = api.ErrArg
			}
			mustBe(t, "processors and lists", s, want)
		}
	}
	mustBe(t, "no processor, nil lists", api.Script{Pages: 1}, api.ErrArg)
	mustBe(t, "a processor, nil lists", api.Script{Cpus: 1, Pages: 1}, api.ErrArg)
	mustBe(t, "a zero script", api.Script{}, api.ErrArg)
	mustBe(t, "256 processors", empty(256, 1), api.ErrArg)
	mustBe(t, "a million lists", api.Script{Cpus: 8, Pages: 1, Calls: make([][]api.Call, 1000000)}, api.ErrArg)
}

func TestPages(t *testing.T) { // P2.1
	for _, pages := range []int{math.MinInt, -1024, -1, 0, 1, 2, 255, 256, 257, 512, 1023, 1024, 1025, 2048, 65535, 65536, 65537, math.MaxInt} {
		mustBe(t, "pages", empty(2, pages), within(pages, 1, 1024))
	}
}

func TestNumberOfCalls(t *testing.T) { // P2.1
	for _, many := range []int{0, 1, 2, 63, 64, 65, 66, 128, 129, 256, 257, 320, 100000} {
		for cpu := 0; cpu < 8; cpu++ {
			s := empty(8, 3)
			s.Calls[cpu] = make([]api.Call, many)
			mustBe(t, "number of calls", s, within(many, 0, 64))
		}
	}
}

func TestNumbersOfACall(t *testing.T) { // P2.1
	numbers := []int{math.MinInt, -65536, -256, -14, -1, 0, 1, 12, 13, 14, 15, 27, 28, 127, 128, 254, 255, 256, 257, 511, 512, 65534, 65535, 65536, 65537, 1 << 32, math.MaxInt}
	for _, where := range [][2]int{{0, 0}, {0, 1}, {0, 2}, {2, 0}} {
		for _, n := range numbers {
			for part, most := range []int{13, 255, 65535, 255} {
				s := small()
				c := &s.Calls[where[0]][where[1]]
				*[]*int{&c.Op, &c.A, &c.B, &c.C}[part] = n
				mustBe(t, "a number of a call", s, within(n, 0, most))
			}
		}
	}
}

func TestLastCallOfAFullList(t *testing.T) { // P2.1
	for _, bad := range []api.Call{{Op: -1}, {Op: 14}, {A: -1}, {A: 256}, {B: -1}, {B: 65536}, {C: -1}, {C: 256}} {
		for _, cpu := range []int{0, 7} {
			s := great()
			s.Calls[cpu][63] = bad
			mustBe(t, "the last call", s, api.ErrArg)
		}
	}
}

func TestNumberOfPicks(t *testing.T) { // P2.1
	for _, many := range []int{0, 1, 4095, 4096, 4097, 4098, 8192, 1000000} {
		s := empty(2, 1)
		s.Picks = make([]int, many)
		mustBe(t, "number of picks", s, within(many, 0, 4096))
	}
}

func TestPicks(t *testing.T) { // P2.1
	for _, n := range []int{math.MinInt, -256, -1, 0, 1, 7, 8, 254, 255, 256, 257, 65535, 65536, math.MaxInt} {
		for _, where := range []int{0, 1, 2048, 4094, 4095} {
			s := great()
			s.Picks[where] = n
			mustBe(t, "a pick", s, within(n, 0, 255))
		}
		s := empty(1, 1)
		s.Picks = []int{n}
		mustBe(t, "the only pick", s, within(n, 0, 255))
	}
}

func TestNilAndEmptyLists(t *testing.T) { // P2.1, Lists
	none := api.Script{Cpus: 2, Pages: 16, Calls: [][]api.Call{nil, nil}}
	void := api.Script{Cpus: 2, Pages: 16, Calls: [][]api.Call{{}, {}}, Picks: []int{}}
	mustBe(t, "nil lists", none, api.OK)
	mustBe(t, "empty lists", void, api.OK)
	mustBe(t, "an empty list of lists", api.Script{Cpus: 1, Pages: 1, Calls: [][]api.Call{}, Picks: []int{}}, api.ErrArg)
	a, _ := tape.Bytes(none)
	b, _ := tape.Bytes(void)
	if !bytes.Equal(a, b) {
		t.Errorf("nil lists %x, empty lists %x", a, b)
	}
	if !alike(tape.Script(nil), tape.Script([]byte{})) {
		t.Error("nil and empty bytes have different scripts")
	}
}

// tapes are scripts and their encodings, written out by hand.
func tapes() map[string]api.Script {
	return map[string]api.Script{
		"00000000":                    empty(1, 1),
		"00000f00":                    empty(1, 16),
		"01000f00010100000000":        {Cpus: 2, Pages: 16, Calls: [][]api.Call{{}, {{Op: api.OpAlloc}}}},
		"000007010102010003" + "0904": {Cpus: 1, Pages: 8, Calls: [][]api.Call{{{Op: api.OpAlloc, A: 2, B: 256, C: 3}}}, Picks: []int{9, 4}},
		"000000010dffffffff":          {Cpus: 1, Pages: 1, Calls: [][]api.Call{{{Op: api.OpBogus, A: 255, B: 65535, C: 255}}}},
		"0003ff00ff00":                {Cpus: 1, Pages: 1024, Calls: [][]api.Call{nil}, Picks: []int{255, 0}},
		"00010000":                    empty(1, 257),
		"0000ff00":                    empty(1, 256),
		"020101" + "03" + "0000001701" + "0102010003" + "0dffffffff" + "00" + "01" + "0a07123409" + "00ff0701": small(),
		"0703ff" + "0000000000000000": empty(8, 1024),
	}
}

func TestEncodings(t *testing.T) { // P2.1
	for text, s := range tapes() {
		b, e := tape.Bytes(s)
		if e != api.OK || hex.EncodeToString(b) != text {
			t.Errorf("%d, %x, not %s", e, b, text)
		}
	}
}

func TestEncodingOfTheGreatest(t *testing.T) { // P2.1
	b, e := tape.Bytes(great())
	if e != api.OK || len(b) != 3+8*(1+64*5)+4096 || b[3] != 64 || b[len(b)-4097] != 255 {
		t.Errorf("%d, %d bytes", e, len(b))
	}
}

func TestScripts(t *testing.T) { // P2.2
	for text, s := range tapes() {
		b, _ := hex.DecodeString(text)
		if got := tape.Script(b); !alike(got, s) {
			t.Errorf("%s: %v", text, got)
		}
	}
}

func TestScriptsOfFewBytes(t *testing.T) { // P2.2
	for _, c := range []struct {
		b    []byte
		want api.Script
	}{
		{nil, empty(1, 1)},
		{[]byte{0}, empty(1, 1)},
		{[]byte{9, 4, 0}, empty(2, 1)},
		{[]byte{7}, empty(8, 1)},
		{[]byte{0, 1}, empty(1, 257)},    // within the pages
		{[]byte{0, 1, 2}, empty(1, 259)}, // ahead of the first list
		{[]byte{0, 0, 0, 1}, api.Script{Cpus: 1, Pages: 1, Calls: [][]api.Call{{{}}}}},                                  // ahead of a call
		{[]byte{0, 0, 0, 1, 3}, api.Script{Cpus: 1, Pages: 1, Calls: [][]api.Call{{{Op: 3}}}}},                          // within a call
		{[]byte{0, 0, 0, 2, 3, 4, 5}, api.Script{Cpus: 1, Pages: 1, Calls: [][]api.Call{{{Op: 3, A: 4, B: 1280}, {}}}}}, // within B
		{[]byte{0, 0, 0, 1, 3, 4, 5, 6}, api.Script{Cpus: 1, Pages: 1, Calls: [][]api.Call{{{Op: 3, A: 4, B: 1286}}}}},
		{[]byte{1, 0, 0, 1, 3, 4, 5, 6, 7}, api.Script{Cpus: 2, Pages: 1, Calls: [][]api.Call{{{Op: 3, A: 4, B: 1286, C: 7}}, nil}}}, // between two lists
		{[]byte{1, 0, 0, 0, 1}, api.Script{Cpus: 2, Pages: 1, Calls: [][]api.Call{nil, {{}}}}},
		{[]byte{0, 0, 0, 64}, api.Script{Cpus: 1, Pages: 1, Calls: [][]api.Call{make([]api.Call, 64)}}},
		{[]byte{0, 0, 0, 0, 0}, api.Script{Cpus: 1, Pages: 1, Calls: [][]api.Call{nil}, Picks: []int{0}}},
	} {
		if got := tape.Script(c.b); !alike(got, c.want) {
			t.Errorf("%v: %v, not %v", c.b, got, c.want)
		}
	}
}

func TestEveryByteAtEveryModulus(t *testing.T) { // P2.2
	for n := 0; n < 256; n++ {
		if s := tape.Script([]byte{byte(n)}); s.Cpus != n%8+1 || len(s.Calls) != s.Cpus {
			t.Errorf("%d: %d processors, %d lists", n, s.Cpus, len(s.Calls))
		}
		if s := tape.Script([]byte{0, 0, 0, byte(n)}); len(s.Calls[0]) != n%65 {
			t.Errorf("%d: %d calls", n, len(s.Calls[0]))
		}
		if s := tape.Script([]byte{0, 0, 0, 1, byte(n), byte(n), 0, 0, byte(n), byte(n)}); s.Calls[0][0] != (api.Call{Op: n % 14, A: n, C: n}) || !slices.Equal(s.Picks, []int{n}) {
			t.Errorf("%d: %v", n, s)
		}
	}
	for n := 0; n < 65536; n++ {
		high, low := byte(n/256), byte(n%256)
		if s := tape.Script([]byte{0, high, low, 1, 0, 0, high, low}); s.Pages != n%1024+1 || s.Calls[0][0].B != n {
			t.Errorf("%d: %d pages, B %d", n, s.Pages, s.Calls[0][0].B)
		}
	}
}

func TestManyPicks(t *testing.T) { // P2.2
	for _, many := range []int{0, 1, 4095, 4096, 4097, 5000, 1 << 20} {
		picks := noise(uint32(many), many)
		s := tape.Script(append([]byte{0, 0, 0, 0}, picks...))
		if len(s.Picks) != min(many, 4096) {
			t.Errorf("%d: %d picks", many, len(s.Picks))
		}
		for i, p := range s.Picks {
			if p != int(picks[i]) {
				t.Errorf("%d: pick %d is %d", many, i, p)
			}
		}
	}
}

func TestBytesThatEndAnywhere(t *testing.T) { // P2.2
	for _, b := range [][]byte{encoded(small()), shorts(5, 400), noise(6, 3000), encoded(great())[:3000]} {
		for n := range len(b) + 1 {
			if got, want := tape.Script(b[:n]), scriptAt(b[:n]); !alike(got, want) {
				t.Errorf("%d of %x: %v", n, b, got)
			}
		}
	}
}

func TestScriptsOfAnyBytes(t *testing.T) { // P2.2
	for _, b := range someBytes() {
		if got, want := tape.Script(b), scriptAt(b); !alike(got, want) {
			t.Errorf("%x: %v, not %v", b, got, want)
		}
	}
}

func TestArgumentsAreOnlyRead(t *testing.T) { // P2.3
	for _, s := range append(someScripts(), api.Script{Cpus: 1, Pages: 1, Calls: [][]api.Call{{{Op: 99}}}, Picks: []int{1}}) {
		was := copied(s)
		tape.Check(s)
		tape.Bytes(s)
		if !alike(s, was) {
			t.Errorf("a script was changed: %v", was)
		}
	}
	for _, b := range someBytes() {
		room := append(slices.Clone(b), 1, 2, 3, 4, 5, 6, 7, 8)
		was := slices.Clone(room)
		tape.Script(room[:len(b)])
		if !bytes.Equal(room, was) {
			t.Errorf("bytes were changed: %x", b)
		}
	}
}

func TestUnusedCapacityOfLists(t *testing.T) { // P2.3
	calls := []api.Call{{Op: 1}, {Op: 2}, {Op: 99}}
	lists := [][]api.Call{calls[:1], calls[1:2], calls[2:]}
	picks := []int{1, 2, 999}
	s := api.Script{Cpus: 2, Pages: 1, Calls: lists[:2], Picks: picks[:2]}
	b, e := tape.Bytes(s)
	if want := []byte{1, 0, 0, 1, 1, 0, 0, 0, 0, 1, 2, 0, 0, 0, 0, 1, 2}; e != api.OK || !bytes.Equal(b, want) {
		t.Errorf("%d, %v", e, b)
	}
	if calls[2].Op != 99 || picks[2] != 999 || len(lists[2]) != 1 {
		t.Error("unused capacity was changed")
	}
}

func TestUnusedCapacityOfBytes(t *testing.T) { // P2.3
	room := bytes.Repeat([]byte{1}, 100)
	if s := tape.Script(room[:0]); !alike(s, empty(1, 1)) {
		t.Errorf("bytes behind the end were read: %v", s)
	}
	if s := tape.Script(room[:5]); !alike(s, scriptAt(room[:5])) {
		t.Errorf("bytes behind the end were read: %v", s)
	}
}

func TestResultsAreNewMemory(t *testing.T) { // P2.3
	s := small()
	b, _ := tape.Bytes(s)
	first := slices.Clone(b)
	s.Calls[0][0].A, s.Picks[0], s.Calls[1] = 77, 78, []api.Call{{Op: 5}}
	if !bytes.Equal(b, first) {
		t.Error("the bytes changed with the script")
	}
	again, _ := tape.Bytes(small())
	for i := range b {
		b[i] = 99
	}
	if !bytes.Equal(again, first) {
		t.Error("the bytes of two calls are one memory")
	}
	one, two := tape.Script(first), tape.Script(first)
	for i := range first {
		first[i] = 99
	}
	one.Calls[0][0].A, one.Picks[0], one.Calls[2] = 77, 78, nil
	if !alike(two, small()) {
		t.Error("a script shares memory with its bytes, or with another one")
	}
}

func TestListsOfOneScriptShareNothing(t *testing.T) { // P2.3
	b := encoded(great())
	s := tape.Script(b)
	for cpu := range s.Calls {
		l := s.Calls[cpu]
		room := l[:cap(l)]
		for i := range room {
			room[i] = api.Call{Op: cpu, A: i}
		}
	}
	for cpu, l := range s.Calls {
		for i, c := range l {
			if c != (api.Call{Op: cpu, A: i}) {
				t.Fatalf("list %d shares call %d with another list", cpu, i)
			}
		}
	}
}

func TestAnyBytesAreAValidScript(t *testing.T) { // P2.4
	for _, b := range someBytes() {
		s := tape.Script(b)
		if e := tape.Check(s); e != api.OK {
			t.Errorf("%x: %d", b, e)
		}
		if e := within(s.Cpus, 1, 8) + within(s.Pages, 1, 1024) + within(len(s.Calls), s.Cpus, s.Cpus) + within(len(s.Picks), 0, 4096); e != api.OK {
			t.Errorf("%x: %v", b, s)
		}
	}
}

func TestThereAndBack(t *testing.T) { // P2.4
	for _, s := range someScripts() {
		b, e := tape.Bytes(s)
		if e != api.OK {
			t.Errorf("%v: %d", s, e)
		}
		if got := tape.Script(b); !alike(got, s) {
			t.Errorf("%v comes back as %v", s, got)
		}
	}
}

// neighbours are valid scripts that differ from one another in little.
func neighbours() []api.Script {
	l := []api.Script{small(), empty(2, 1), empty(2, 2), empty(2, 257), empty(3, 1), empty(1, 1)}
	for part := range 4 {
		s := small()
		c := &s.Calls[0][1]
		*[]*int{&c.Op, &c.A, &c.B, &c.C}[part] = 12
		l = append(l, s)
	}
	b := small()
	b.Calls[0][1].B = 1
	more := small()
	more.Calls[1] = []api.Call{{}}
	moved := small()
	moved.Calls[1], moved.Calls[2] = moved.Calls[2], nil
	fewer := small()
	fewer.Picks = fewer.Picks[:3]
	zero := small()
	zero.Picks = append(zero.Picks, 0)
	swapped := small()
	swapped.Picks[2], swapped.Picks[3] = swapped.Picks[3], swapped.Picks[2]
	turned := small()
	turned.Calls[0][0], turned.Calls[0][1] = turned.Calls[0][1], turned.Calls[0][0]
	return append(l, b, more, moved, fewer, zero, swapped, turned)
}

func TestDifferentScriptsHaveDifferentEncodings(t *testing.T) { // P2.5
	l := neighbours()
	for i, a := range l {
		one, e := tape.Bytes(a)
		if e != api.OK {
			t.Errorf("%v: %d", a, e)
		}
		for j, b := range l {
			two, _ := tape.Bytes(b)
			if (i == j) != bytes.Equal(one, two) {
				t.Errorf("%v and %v: %x and %x", a, b, one, two)
			}
		}
	}
}

func TestAdditionalBytesArePicks(t *testing.T) { // P2.5
	for _, s := range append(neighbours(), great()) {
		b, _ := tape.Bytes(s)
		for _, many := range []int{1, 2, 5, 4000, 4096, 5000} {
			more := noise(uint32(many), many)
			want := copied(s)
			for _, p := range more {
				want.Picks = append(want.Picks, int(p))
			}
			want.Picks = want.Picks[:min(len(want.Picks), 4096)]
			if got := tape.Script(slices.Concat(b, more)); !alike(got, want) {
				t.Errorf("%x and %d more bytes: %v", b, many, got)
			}
		}
	}
}

func TestArgumentsFarOutside(t *testing.T) { // R1
	for _, n := range []int{math.MinInt, math.MinInt + 1, -1, math.MaxInt - 1, math.MaxInt} {
		for _, s := range []api.Script{
			{Cpus: n},
			{Cpus: n, Pages: n, Calls: make([][]api.Call, 3), Picks: []int{n}},
			{Cpus: 1, Pages: 1, Calls: [][]api.Call{{{Op: n, A: n, B: n, C: n}}}},
			{Cpus: 1, Pages: n, Calls: [][]api.Call{nil}},
		} {
			mustBe(t, "far outside", s, api.ErrArg)
		}
	}
	if s := tape.Script(make([]byte, 1<<24)); len(s.Picks) != 4096 {
		t.Errorf("of 16 million bytes %d picks", len(s.Picks))
	}
}

func TestResultsHangOnArgumentsAlone(t *testing.T) { // R2
	for _, b := range someBytes() {
		s := tape.Script(b)
		first, _ := tape.Bytes(s)
		tape.Script(noise(1, 500))
		tape.Bytes(api.Script{Cpus: 99})
		tape.Bytes(great())
		again, e := tape.Bytes(s)
		if !reflect.DeepEqual(tape.Script(b), s) || !bytes.Equal(again, first) || e != api.OK {
			t.Errorf("%x: another result the second time", b)
		}
	}
}
