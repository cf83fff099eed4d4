package ascii

import (
	"strings"
	"testing"
)

// every is text of all 256 bytes, in their order.
func every() string {
	b := make([]byte, 256)
	for i := range b {
		b[i] = byte(i)
	}
	return string(b)
}

// samples are texts of all kinds: ordinary ones, edges, and bytes that are no text.
func samples() []string {
	return []string{
		"", "a", "Z", "AbC", " ", "\t\n\f\r ", " a\t", "\va\v", "a b", "  a b  ",
		"[@`{", "ÄÖ", "\u212a", "\u017f", "\u00a0a\u00a0", "\u0085", "\u2003x", "\xff", "A\xc3", "\x00A\x00", " \x00 ",
		every(), strings.Repeat(" ", 100) + "Q" + strings.Repeat("\n", 100),
	}
}

// P1.1: Space, of all 256 bytes.
func TestSpace(t *testing.T) {
	want := map[byte]bool{9: true, 10: true, 12: true, 13: true, 32: true}
	for i := range 256 {
		if Space(byte(i)) != want[byte(i)] {
			t.Errorf("Space(%d) = %v", i, Space(byte(i)))
		}
	}
}

// P1.1: Letter, of all 256 bytes.
func TestLetter(t *testing.T) {
	letters := "ABCDEFGHIJKLMNOPQRSTUVWXYZabcdefghijklmnopqrstuvwxyz"
	for i := range 256 {
		if want := strings.IndexByte(letters, byte(i)) >= 0; Letter(byte(i)) != want {
			t.Errorf("Letter(%d) = %v", i, !want)
		}
	}
}

// P1.1: Hex, of all 256 bytes.
func TestHex(t *testing.T) {
	for i := range 256 {
		want := strings.IndexByte("0123456789abcdef", byte(i))
		if 'A' <= i && i <= 'F' {
			want = i - 'A' + 10
		}
		if got := Hex(byte(i)); got != want {
			t.Errorf("Hex(%d) = %d, not %d", i, got, want)
		}
	}
}

// P1.2: Lower, of each byte by itself, and of all of them together.
func TestLower(t *testing.T) {
	all := every()
	want := all[:'A'] + "abcdefghijklmnopqrstuvwxyz" + all['Z'+1:]
	if got := Lower(all); got != want {
		t.Errorf("Lower of all bytes = %q", got)
	}
	for i := range 256 {
		if got := Lower(all[i : i+1]); got != want[i:i+1] {
			t.Errorf("Lower of byte %d = %q", i, got)
		}
	}
	cases := map[string]string{
		"": "", "Q[": "q[", "DiV": "div", "ÄÖ": "ÄÖ", "\u212a": "\u212a", "\xffA\xc3": "\xffa\xc3", "É\x00E": "É\x00e",
	}
	for s, want := range cases {
		if got := Lower(s); got != want {
			t.Errorf("Lower(%q) = %q", s, got)
		}
	}
}

// P1.2: Fold holds of two bytes just if they are one, or one letter.
func TestFoldBytes(t *testing.T) {
	all := every()
	for i := range 256 {
		for j := range 256 {
			want := i == j || Letter(byte(i)) && (i-j == 32 || j-i == 32) && Letter(byte(j))
			if got := Fold(all[i:i+1], all[j:j+1]); got != want {
				t.Errorf("Fold of %d and %d = %v", i, j, got)
			}
		}
	}
}

// P1.2: Fold holds just if both have the same Lower.
func TestFold(t *testing.T) {
	cases := []struct {
		a, b string
		want bool
	}{
		{"", "", true}, {"", "a", false}, {"a", "", false}, {"Ab", "aB", true}, {"ab", "abc", false}, {"abc", "ab", false},
		{"abc", "abd", false}, {"dabc", "eabc", false}, {"@", "`", false}, {"[", "{", false},
		{"\u212a", "k", false}, {"\u017f", "s", false}, {"Ä", "ä", false}, {"A\xff", "a\xff", true}, {"\xff", "\xfe", false},
	}
	for _, c := range cases {
		if Fold(c.a, c.b) != c.want {
			t.Errorf("Fold(%q, %q) = %v", c.a, c.b, !c.want)
		}
	}
	for _, a := range samples() {
		for _, b := range samples() {
			if Fold(a, b) != (Lower(a) == Lower(b)) {
				t.Errorf("Fold(%q, %q) = %v", a, b, Fold(a, b))
			}
		}
	}
}

// P1.2: Blank, of each byte by itself, and beside blanks.
func TestBlank(t *testing.T) {
	all := every()
	for i := range 256 {
		c := all[i : i+1]
		for _, s := range []string{c, " " + c, c + "\t", "\r\n" + c + "\f"} {
			if Blank(s) != Space(byte(i)) {
				t.Errorf("Blank(%q) = %v", s, Blank(s))
			}
		}
	}
	cases := map[string]bool{
		"": true, "\t\n\f\r ": true, " a": false, "a ": false, "\v": false, "\u00a0": false, "\u0085": false,
		"\u2003": false, "\u0120": false, " \xff": false, "\xe2\x80": false, "\x00": false,
	}
	for s, want := range cases {
		if Blank(s) != want {
			t.Errorf("Blank(%q) = %v", s, !want)
		}
	}
}

// P1.2: Trim, of ordinary texts, of each byte at both ends, and of what is no ASCII.
func TestTrim(t *testing.T) {
	cases := map[string]string{
		"": "", " a\t": "a", "a": "a", " ": "", "\t\n\f\r ": "", "a b": "a b", "\n a \t b \r": "a \t b",
		"  a": "a", "a  ": "a", "\va\v": "\va\v", "\u00a0a\u00a0": "\u00a0a\u00a0", " \x85 ": "\x85", " \xa0": "\xa0", "\x00 ": "\x00",
	}
	for s, want := range cases {
		if got := Trim(s); got != want {
			t.Errorf("Trim(%q) = %q", s, got)
		}
	}
	for i := range 256 {
		c := every()[i : i+1]
		want := c + "x" + c
		if Space(byte(i)) {
			want = "x"
		}
		if got := Trim(c + "x" + c); got != want {
			t.Errorf("Trim of x between bytes %d = %q", i, got)
		}
	}
}

// P1.3: what is Lower stays so.
func TestLowerStays(t *testing.T) {
	for _, s := range samples() {
		if l := Lower(s); Lower(l) != l || !Fold(l, s) || len(l) != len(s) {
			t.Errorf("Lower of Lower(%q) = %q", s, Lower(l))
		}
	}
}

// P1.3: Fold goes both ways.
func TestFoldBothWays(t *testing.T) {
	for _, a := range samples() {
		for _, b := range samples() {
			if Fold(a, b) != Fold(b, a) {
				t.Errorf("Fold(%q, %q) = %v, the other way not", a, b, Fold(a, b))
			}
		}
	}
}

// P1.3: what is trimmed stays so, is a part of what it was, and only Spaces stand around it there.
func TestTrimStays(t *testing.T) {
	for _, s := range samples() {
		x := Trim(s)
		if Trim(x) != x {
			t.Errorf("Trim of Trim(%q) = %q", s, Trim(x))
		}
		front, back, part := strings.Cut(s, x)
		if !part || !Blank(front) || !Blank(back) {
			t.Errorf("Trim(%q) = %q", s, x)
		}
	}
}

// P0: great texts come to an end, too.
func TestGreat(t *testing.T) {
	s := strings.Repeat(" ", 1<<24)
	if !Blank(s) || Trim(s) != "" || Lower(s) != s || !Fold(s, s) {
		t.Error("great text: not so")
	}
}
