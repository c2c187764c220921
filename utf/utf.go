// Package utf is layer 1: see shared/doc/01-utf.md.
package utf

import (
	"unicode/utf8"

	"galliard/api"
)

// May tells whether a number is a letter's: 0 to MaxRune, but for those of halves.
func May(r int) bool {
	return r >= 0 && r <= api.MaxRune && (r < 0xd800 || r > 0xdfff)
}

// Size is how many bytes a letter has; 0: it is none.
func Size(r int) int {
	return len(Put(r))
}

// Get is the letter at a place of a text, and how many bytes it has; 0, 0: there is none, or it is not in its form.
func Get(s string, at int) (int, int) {
	if at < 0 || at >= len(s) {
		return 0, 0
	}
	r, n := utf8.DecodeRuneInString(s[at:])
	// fffd is a letter too, of three bytes: with one byte it tells that there is none.
	if r == utf8.RuneError && n == 1 {
		return 0, 0
	}
	return int(r), n
}

// Put is a letter's bytes; "": it is none.
func Put(r int) string {
	if !May(r) {
		return ""
	}
	return string(rune(r))
}

// Bad is the place of the first byte of a text that begins no letter; -1: there is none.
func Bad(s string) int {
	_, end := run(s)
	if end < len(s) {
		return end
	}
	return -1
}

// Count is how many letters a text has, up to the first byte that begins none.
func Count(s string) int {
	count, _ := run(s)
	return count
}

// run is how many letters a text begins with, and where the last of them ends.
func run(s string) (count, end int) {
	for end < len(s) {
		_, n := Get(s, end)
		if n == 0 {
			break
		}
		count++
		end += n
	}
	return count, end
}
