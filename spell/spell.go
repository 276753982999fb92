// Package spell is layer 1: names of caches, rune by rune: see shared/doc/01-spell.md.
package spell

import (
	"strings"

	"wainscot/api"
)

// apart is how far an upper-case letter stands ahead of its lower-case one.
const apart = 32

// letters is a row of lower-case letters without a gap.
type letters struct{ first, last rune }

// lowers are all lower-case letters: two rows are parted where a division sign and a final sigma stand, which have no upper-case letter.
var lowers = [5]letters{
	{'a', 'z'},
	{0xE0, 0xF6},
	{0xF8, 0xFE},
	{0x3B1, 0x3C1},
	{0x3C3, 0x3C9},
}

// Check tells whether a text is a name. A byte at which no encoding starts is read as U+FFFD, which is no letter, so that it needs no look of its own.
func Check(name string) api.Errno {
	n := 0
	for _, r := range name {
		if n == api.MaxName || !mayStand(r, n) {
			return api.ErrName
		}
		n++
	}
	if n == 0 {
		return api.ErrName
	}
	return api.OK
}

// Fold makes upper-case letters lower-case.
func Fold(s string) string {
	var b strings.Builder
	for _, r := range s {
		b.WriteRune(lower(r))
	}
	return b.String()
}

// Same tells whether both are equal when they are folded.
func Same(a, b string) bool {
	return Fold(a) == Fold(b)
}

// Less tells whether the first one, folded, precedes the second one. What was folded is valid UTF-8, whose bytes are in the order of the runes.
func Less(a, b string) bool {
	return Fold(a) < Fold(b)
}

// Runes is how many runes there are.
func Runes(s string) int {
	n := 0
	for range s {
		n++
	}
	return n
}

// Cut is the first n runes. They are encoded anew, so that the answer is UTF-8 where the text isn't.
func Cut(s string, n int) string {
	var b strings.Builder
	left := n
	for _, r := range s {
		if left < 1 {
			break
		}
		b.WriteRune(r)
		left--
	}
	return b.String()
}

// mayStand tells whether a name may have a rune at a place.
func mayStand(r rune, at int) bool {
	if isLower(lower(r)) {
		return true
	}
	return at > 0 && (r >= '0' && r <= '9' || r == '-' || r == '_')
}

// lower is the lower-case letter of an upper-case one; any other rune stays.
func lower(r rune) rune {
	if isLower(r + apart) {
		return r + apart
	}
	return r
}

// isLower tells whether a rune is a lower-case letter.
func isLower(r rune) bool {
	for _, l := range lowers {
		if l.first <= r && r <= l.last {
			return true
		}
	}
	return false
}
