// Package utf is layer 2: bytes as text.
package utf

import (
	"strings"
	"unicode/utf8"
)

// Decode is b as text: what is no character, and a byte 0, becomes 65533; each end of a line becomes 10.
func Decode(b []byte) string {
	s := string(b)
	if Valid(s) {
		return s
	}
	var out strings.Builder
	out.Grow(len(s))
	for len(s) > 0 {
		r, n := first(s)
		out.WriteRune(r)
		s = s[n:]
	}
	return out.String()
}

// Encode is the bytes of the character n; of a number that is no character's, those of 65533.
func Encode(n int) string {
	// A number is held against the limits ahead of becoming a rune, which would cut it to 32 bits.
	if n < 0 || n > utf8.MaxRune || !utf8.ValidRune(rune(n)) {
		return string(utf8.RuneError)
	}
	return string(rune(n))
}

// Valid tells whether s is the Decode of its own bytes.
func Valid(s string) bool {
	return utf8.ValidString(s) && strings.IndexByte(s, 0) < 0 && strings.IndexByte(s, '\r') < 0
}

// Count is how many characters Decode of s has.
func Count(s string) int {
	count := 0
	for len(s) > 0 {
		_, n := first(s)
		s = s[n:]
		count++
	}
	return count
}

// first is the first character of the Decode of s, and how many bytes of s it stands for; s is not empty.
func first(s string) (rune, int) {
	r, n := utf8.DecodeRuneInString(s)
	switch {
	case r == 0:
		return utf8.RuneError, n
	case r == '\r' && strings.HasPrefix(s[n:], "\n"):
		return '\n', n + 1
	case r == '\r':
		return '\n', n
	case r == utf8.RuneError && n == 1:
		return r, broken(s)
	}
	return r, n
}

// broken is how many bytes at the front of s begin a character's bytes, or 1 if none do; s begins with no whole character.
func broken(s string) int {
	n := 1
	// What is not full is what more bytes could still make a character of.
	for n < len(s) && !utf8.FullRuneInString(s[:n+1]) {
		n++
	}
	return n
}
