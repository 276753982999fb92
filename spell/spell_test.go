package spell_test

import (
	"math"
	"strings"
	"testing"
	"unicode/utf8"

	"wainscot/api"
	"wainscot/spell"
)

// The tests hold the package against the chapter said a second time, in another way: the letters are written out, and texts are lists of runes.
const (
	upperText = "ABCDEFGHIJKLMNOPQRSTUVWXYZ" + "ÀÁÂÃÄÅÆÇÈÉÊËÌÍÎÏÐÑÒÓÔÕÖØÙÚÛÜÝÞ" + "ΑΒΓΔΕΖΗΘΙΚΛΜΝΞΟΠΡΣΤΥΦΧΨΩ"
	lowerText = "abcdefghijklmnopqrstuvwxyz" + "àáâãäåæçèéêëìíîïðñòóôõöøùúûüýþ" + "αβγδεζηθικλμνξοπρστυφχψω"
)

func lowerOf() map[rune]rune {
	low := []rune(lowerText)
	m := map[rune]rune{}
	for i, r := range []rune(upperText) {
		m[r] = low[i]
	}
	return m
}

func foldRunes(s string) []rune {
	m := lowerOf()
	l := []rune(s)
	for i, r := range l {
		if low, is := m[r]; is {
			l[i] = low
		}
	}
	return l
}

func lessRunes(a, b []rune) bool {
	for i := range b {
		if i == len(a) {
			return true
		}
		if a[i] != b[i] {
			return a[i] < b[i]
		}
	}
	return false
}

// everyRune calls f with each rune that has an encoding.
func everyRune(f func(r rune)) {
	for r := rune(0); r <= utf8.MaxRune; r++ {
		if utf8.ValidRune(r) {
			f(r)
		}
	}
}

// texts are short ones of pieces with something special about them, and some longer ones.
func texts() []string {
	pieces := []string{"a", "B", "Z", "z", "_", "9", "-", "é", "É", "Ā", "Я", "÷", "×", "ς", "Ω", "ω", "\x00", "\xff", "\xce", "\uFFFD", "\U0001F600"}
	l := []string{""}
	for _, a := range pieces {
		l = append(l, a)
		for _, b := range pieces {
			l = append(l, a+b)
		}
	}
	return append(l, "Kernel", "kERNEL", "Ärger-2", "inode_cache", "\xed\xa0\x80", "a\xe2\x82", strings.Repeat("Ä", 16), strings.Repeat("b", 17), strings.Repeat("Ψ\xff", 40))
}

func TestRunesThatBeginAName(t *testing.T) { // P1.1
	everyRune(func(r rune) {
		want := api.ErrName
		if strings.ContainsRune(lowerText+upperText, r) {
			want = api.OK
		}
		if got := spell.Check(string(r)); got != want {
			t.Errorf("Check of %U: %d, not %d", r, got, want)
		}
	})
}

func TestRunesInsideAName(t *testing.T) { // P1.1
	everyRune(func(r rune) {
		want := api.ErrName
		if strings.ContainsRune(lowerText+upperText+"0123456789-_", r) {
			want = api.OK
		}
		for _, s := range []string{"a" + string(r), "Ω" + string(r) + "é"} {
			if got := spell.Check(s); got != want {
				t.Errorf("Check of %q: %d, not %d", s, got, want)
			}
		}
	})
}

func TestEndsOfTheRanges(t *testing.T) { // P1.1
	for _, r := range []rune{'a', 'z', 'A', 'Z', 0xE0, 0xF6, 0xF8, 0xFE, 0xC0, 0xD6, 0xD8, 0xDE, 0x3B1, 0x3C1, 0x3C3, 0x3C9, 0x391, 0x3A1, 0x3A3, 0x3A9} {
		if got := spell.Check(string(r)); got != api.OK {
			t.Errorf("Check of %U: %d", r, got)
		}
	}
	for _, r := range []rune{'a' - 1, 'z' + 1, 'A' - 1, 'Z' + 1, 0xDF, 0xFF, 0xBF, 0xF7, 0xD7, 0x3B0, 0x3CA, 0x390, 0x3AA, 0x3C2, 0x3A2, '0' - 1, '9' + 1, 0x100, 0x370, utf8.RuneError, utf8.MaxRune} {
		if got := spell.Check("x" + string(r)); got != api.ErrName {
			t.Errorf("Check of x and %U: %d", r, got)
		}
		if got := spell.Check(string(r)); got != api.ErrName {
			t.Errorf("Check of %U: %d", r, got)
		}
	}
}

func TestNames(t *testing.T) { // P1.1
	for _, s := range []string{"inode", "Ärger-2", "x", "a-", "a_", "a0", "a9-_", "éλ", "abcdefghijklmnop", strings.Repeat("Ω", 16), "a" + strings.Repeat("9", 15), "b" + strings.Repeat("-", 15)} {
		if got := spell.Check(s); got != api.OK {
			t.Errorf("%q: %d", s, got)
		}
	}
	for _, s := range []string{"", "2b", "-a", "_a", "0", "9", "-", "_", "a b", " a", "a ", "a\n", "a\x00", "ςx", "xς", "a×b", "a÷b", "Σ\u03A2", "a.b", "a\u0308", "abcdefghijklmnopq", strings.Repeat("Ω", 17), "a" + strings.Repeat("9", 16), strings.Repeat("a", 100000)} {
		if got := spell.Check(s); got != api.ErrName {
			t.Errorf("%q: %d", s, got)
		}
	}
}

func TestBytesThatAreNoName(t *testing.T) { // P1.1
	for b := 0x80; b < 0x100; b++ {
		bad := string([]byte{byte(b)})
		for _, s := range []string{bad, "a" + bad, bad + "a", "é" + bad + "é", strings.Repeat("a", 15) + bad} {
			if got := spell.Check(s); got != api.ErrName {
				t.Errorf("%q: %d", s, got)
			}
		}
	}
	for _, s := range []string{"a\xc3", "\xc3a", "a\xc1\xa1", "a\xe0\x81\xa1", "a\xed\xa0\x80", "a\xf4\x90\x80\x80", "a\uFFFD"} {
		if got := spell.Check(s); got != api.ErrName {
			t.Errorf("%q: %d", s, got)
		}
	}
}

func TestRunes(t *testing.T) { // P1.1
	for s, want := range map[string]int{"": 0, "a": 1, "äöü": 3, "\x00": 1, "\uFFFD": 1, "\U0001F600": 1, "\xff": 1, "\xff\xfe": 2, "a\xe2\x82": 3, "\xe2\x82\xac": 1, "\xed\xa0\x80": 3, "\xc0\x80": 2, "\xf4\x90\x80\x80": 4, "\xce\xce\xb1": 2} {
		if got := spell.Runes(s); got != want {
			t.Errorf("%q: %d, not %d", s, got, want)
		}
	}
	for _, s := range texts() {
		if got, want := spell.Runes(s), len([]rune(s)); got != want {
			t.Errorf("%q: %d, not %d", s, got, want)
		}
	}
	if got := spell.Runes(strings.Repeat("ä", 70000)); got != 70000 {
		t.Errorf("70000 runes: %d", got)
	}
}

func TestFoldOfEveryRune(t *testing.T) { // P1.2
	m := lowerOf()
	everyRune(func(r rune) {
		want := r
		if low, is := m[r]; is {
			want = low
		}
		if got := spell.Fold(string(r)); got != string(want) {
			t.Errorf("%U: %q, not %q", r, got, string(want))
		}
	})
}

func TestFold(t *testing.T) { // P1.2
	for s, want := range map[string]string{"": "", "ÄB_Ω": "äb_ω", "\xff": "\uFFFD", "A\xffB": "a\uFFFDb", "É\xce": "é\uFFFD", "×÷ςß\u03A2": "×÷ςß\u03A2", "ΣIGMA": "σigma", "\xed\xa0\x80": "\uFFFD\uFFFD\uFFFD", "ĀŒЯ": "ĀŒЯ", upperText: lowerText, lowerText: lowerText} {
		if got := spell.Fold(s); got != want {
			t.Errorf("%q: %q, not %q", s, got, want)
		}
	}
	for _, s := range texts() {
		if got, want := spell.Fold(s), string(foldRunes(s)); got != want {
			t.Errorf("%q: %q, not %q", s, got, want)
		}
	}
}

func TestSame(t *testing.T) { // P1.2
	for _, p := range [][2]string{{"", ""}, {"Kernel", "kERNEL"}, {"ÉΛX", "éλx"}, {"\xff", "\xfe"}, {"\xff", "\uFFFD"}, {upperText, lowerText}} {
		if !spell.Same(p[0], p[1]) || !spell.Same(p[1], p[0]) {
			t.Errorf("%q and %q are not the same", p[0], p[1])
		}
	}
	for _, p := range [][2]string{{"", "a"}, {"a", "b"}, {"a", "aa"}, {"É", "E"}, {"×", "÷"}, {"Σ", "ς"}, {"@", "`"}, {"[", "{"}, {"\xff", ""}, {"\xff\xff", "\xff"}, {"Ā", "ā"}, {"Ÿ", "ÿ"}, {"Ά", "ά"}, {"Я", "я"}, {"\u212A", "k"}, {"ſ", "s"}, {"\u00B5", "\u03BC"}, {"é", "e\u0301"}} {
		if spell.Same(p[0], p[1]) || spell.Same(p[1], p[0]) {
			t.Errorf("%q and %q are the same", p[0], p[1])
		}
	}
}

func TestLess(t *testing.T) { // P1.2
	for _, p := range [][2]string{{"", "a"}, {"a", "B"}, {"A", "b"}, {"a", "ab"}, {"A", "ab"}, {"ab", "b"}, {"_", "Z"}, {"^", "A"}, {"Z", "é"}, {"É", "Ω"}, {"×", "À"}, {"÷", "Ø"}, {"ß", "À"}, {"ς", "Σ"}, {"Ρ", "ς"}, {"9", "a"}, {"\uFFFD", "\U00010000"}, {"\xff", "\U00010000"}, {"Ω", "\x80"}, {"\xff", "\xffa"}, {"Ā", "ā"}, {"Я", "а"}, {"ÿ", "Ÿ"}} {
		if !spell.Less(p[0], p[1]) {
			t.Errorf("%q is not less than %q", p[0], p[1])
		}
		if spell.Less(p[1], p[0]) {
			t.Errorf("%q is less than %q", p[1], p[0])
		}
	}
	for _, p := range [][2]string{{"", ""}, {"a", "A"}, {"ÉΛX", "éλx"}, {"\xff", "\uFFFD"}, {"\xff", "\x80"}} {
		if spell.Less(p[0], p[1]) || spell.Less(p[1], p[0]) {
			t.Errorf("%q and %q: one is less", p[0], p[1])
		}
	}
}

func TestSameAndLessOfAnyTexts(t *testing.T) { // P1.2
	l := texts()
	folded := make([][]rune, len(l))
	for i, s := range l {
		folded[i] = foldRunes(s)
	}
	for i, a := range l {
		for j, b := range l {
			if got, want := spell.Same(a, b), string(folded[i]) == string(folded[j]); got != want {
				t.Errorf("Same of %q and %q: %t", a, b, got)
			}
			if got, want := spell.Less(a, b), lessRunes(folded[i], folded[j]); got != want {
				t.Errorf("Less of %q and %q: %t", a, b, got)
			}
		}
	}
}

func TestCut(t *testing.T) { // P1.3
	for _, c := range []struct {
		s    string
		n    int
		want string
	}{
		{"äöü", 2, "äö"}, {"äöü", 3, "äöü"}, {"äöü", 4, "äöü"}, {"äöü", 6, "äöü"}, {"äöü", math.MaxInt, "äöü"},
		{"äöü", 1, "ä"}, {"äöü", 0, ""}, {"äöü", -1, ""}, {"äöü", -3, ""}, {"äöü", math.MinInt, ""},
		{"", 0, ""}, {"", 1, ""}, {"", -1, ""}, {"", math.MaxInt, ""}, {"ÉΛX", 2, "ÉΛ"}, {"\x00a", 1, "\x00"},
		{"a\uFFFDb", 2, "a\uFFFD"}, {"a\xffb", 2, "a\uFFFD"}, {"\xff\xfe", 1, "\uFFFD"}, {"\xe2\x82", 5, "\uFFFD\uFFFD"},
		{"a\U0001F600b", 2, "a\U0001F600"},
	} {
		if got := spell.Cut(c.s, c.n); got != c.want {
			t.Errorf("%q, %d: %q, not %q", c.s, c.n, got, c.want)
		}
	}
	for _, s := range texts() {
		l := []rune(s)
		for n := -2; n <= len(l)+2; n++ {
			if got, want := spell.Cut(s, n), string(l[:min(max(n, 0), len(l))]); got != want {
				t.Errorf("%q, %d: %q, not %q", s, n, got, want)
			}
		}
	}
}

func TestFoldingTwice(t *testing.T) { // P1.4
	for _, s := range append(texts(), upperText, lowerText) {
		once := spell.Fold(s)
		if twice := spell.Fold(once); twice != once {
			t.Errorf("%q: %q, then %q", s, once, twice)
		}
		if !spell.Same(s, once) {
			t.Errorf("%q is not the same when it is folded", s)
		}
	}
}

func TestFoldedAndRaisedNames(t *testing.T) { // P1.4
	up := strings.NewReplacer(pairs(lowerText, upperText)...)
	for _, s := range append(texts(), "x", "Inode", "é-Ω_9", "zÞöØ-ωΨσρ", "abcdefghijklmnoP") {
		if spell.Check(s) != api.OK {
			continue
		}
		for _, other := range []string{spell.Fold(s), up.Replace(s)} {
			if spell.Check(other) != api.OK || !spell.Same(s, other) || spell.Less(s, other) || spell.Less(other, s) {
				t.Errorf("%q and %q: not one name", s, other)
			}
		}
	}
	for high, low := range lowerOf() {
		a, b := string(low), string(high)
		if spell.Check(a) != api.OK || spell.Check(b) != api.OK || !spell.Same(a, b) || spell.Fold(b) != a {
			t.Errorf("%q and %q: not one name", a, b)
		}
	}
}

func pairs(from, to string) []string {
	var l []string
	high := []rune(to)
	for i, r := range []rune(from) {
		l = append(l, string(r), string(high[i]))
	}
	return l
}

func TestOneOfThree(t *testing.T) { // P1.5
	for _, a := range texts() {
		for _, b := range texts() {
			n := 0
			for _, holds := range []bool{spell.Less(a, b), spell.Less(b, a), spell.Same(a, b)} {
				if holds {
					n++
				}
			}
			if n != 1 {
				t.Errorf("%q and %q: %d of three hold", a, b, n)
			}
		}
	}
}

func TestLessIsTransitive(t *testing.T) { // P1.5
	var l []string
	for i, s := range texts() {
		if i%4 == 0 {
			l = append(l, s)
		}
	}
	less := make([][]bool, len(l))
	for i, a := range l {
		for _, b := range l {
			less[i] = append(less[i], spell.Less(a, b))
		}
	}
	for i := range l {
		for j := range l {
			for k := range l {
				if less[i][j] && less[j][k] && !less[i][k] {
					t.Errorf("%q, %q, %q: not transitive", l[i], l[j], l[k])
				}
			}
		}
	}
}

func TestCutTexts(t *testing.T) { // P1.6
	for _, s := range texts() {
		for n := -1; n <= 20; n++ {
			cut := spell.Cut(s, n)
			if got := spell.Runes(cut); got > max(n, 0) {
				t.Errorf("%q, %d: %d runes", s, n, got)
			}
			if again := spell.Cut(cut, n); again != cut {
				t.Errorf("%q, %d: %q, then %q", s, n, cut, again)
			}
		}
		if n := spell.Runes(s); n > len(s) {
			t.Errorf("%q: %d runes, %d bytes", s, n, len(s))
		}
	}
}

func TestResultsHangOnArgumentsAlone(t *testing.T) { // R2
	for _, s := range texts() {
		check, fold, runes, cut := spell.Check(s), spell.Fold(s), spell.Runes(s), spell.Cut(s, 2)
		spell.Fold("ÄÖÜ")
		spell.Check("\xff")
		if spell.Check(s) != check || spell.Fold(s) != fold || spell.Runes(s) != runes || spell.Cut(s, 2) != cut {
			t.Errorf("%q: another result the second time", s)
		}
	}
}

func TestGreatTexts(t *testing.T) { // R1
	for _, s := range []string{strings.Repeat("Ä", 1<<16), strings.Repeat("\xff", 1<<16), strings.Repeat("\xf0\x9f\x98", 1<<16)} {
		if spell.Check(s) != api.ErrName || !spell.Same(s, s) || spell.Less(s, s) || !spell.Less(s, s+"a") || spell.Runes(spell.Cut(s, 1<<15)) != 1<<15 {
			t.Errorf("%q ..: not what was to come", s[:4])
		}
	}
}
