// Package ascii is layer 1: letters, blanks, digits of ASCII, and what is the same but for capitals.
// No byte above 127 is a letter, a blank or a digit here, so text of any bytes may be handed in.
package ascii

// Lower is s with a to z for A to Z.
func Lower(s string) string {
	b := []byte(s)
	for i, c := range b {
		b[i] = small(c)
	}
	return string(b)
}

// Fold tells whether a and b have the same Lower.
func Fold(a, b string) bool {
	if len(a) != len(b) {
		return false
	}
	for i := 0; i < len(a); i++ {
		if small(a[i]) != small(b[i]) {
			return false
		}
	}
	return true
}

// Space tells whether c is a tab, a line feed, a form feed, a carriage return or 32.
func Space(c byte) bool {
	return blank(rune(c))
}

// Letter tells whether c is from A to Z, or a to z.
func Letter(c byte) bool {
	c = small(c)
	return 'a' <= c && c <= 'z'
}

// Hex is what the digit c is to the base 16; -1, if it is none.
func Hex(c byte) int {
	switch {
	case '0' <= c && c <= '9':
		return int(c - '0')
	case 'a' <= c && c <= 'f':
		return int(c-'a') + 10
	case 'A' <= c && c <= 'F':
		return int(c-'A') + 10
	}
	return -1
}

// Blank tells whether each byte of s is a Space.
func Blank(s string) bool {
	// Whatever is no ASCII comes out of the range as a rune above 127, so runes tell the same here as bytes.
	for _, r := range s {
		if !blank(r) {
			return false
		}
	}
	return true
}

// Trim is s without the Spaces at both ends.
func Trim(s string) string {
	from, to := 0, len(s)
	for from < to && Space(s[from]) {
		from++
	}
	for from < to && Space(s[to-1]) {
		to--
	}
	return s[from:to]
}

func blank(r rune) bool {
	switch r {
	case '\t', '\n', '\f', '\r', ' ':
		return true
	}
	return false
}

func small(c byte) byte {
	if 'A' <= c && c <= 'Z' {
		return c + ('a' - 'A')
	}
	return c
}
