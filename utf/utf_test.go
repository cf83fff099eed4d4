package utf

import (
	"math"
	"slices"
	"strings"
	"testing"
)

const other = "\xef\xbf\xbd" // the bytes of 65533

// isChar tells whether n is the number of a character.
func isChar(n int) bool {
	return 0 <= n && n < 55296 || 57343 < n && n <= 1114111
}

// bits is the bytes of the character n, worked out by hand.
func bits(n int) string {
	switch {
	case n < 1<<7:
		return string([]byte{byte(n)})
	case n < 1<<11:
		return string([]byte{byte(0xC0 | n>>6), byte(0x80 | n&63)})
	case n < 1<<16:
		return string([]byte{byte(0xE0 | n>>12), byte(0x80 | n>>6&63), byte(0x80 | n&63)})
	}
	return string([]byte{byte(0xF0 | n>>18), byte(0x80 | n>>12&63), byte(0x80 | n>>6&63), byte(0x80 | n&63)})
}

// model reads bytes by the chapter's words alone.
type model struct {
	whole  map[string]bool // the bytes of characters
	begins map[string]bool // what begins them, and is not whole
}

func newModel() model {
	m := model{map[string]bool{}, map[string]bool{}}
	for n := 0; n <= 1114111; n++ {
		if !isChar(n) {
			continue
		}
		s := bits(n)
		m.whole[s] = true
		for k := 1; k < len(s); k++ {
			m.begins[s[:k]] = true
		}
	}
	return m
}

// chars is s, character by character, with 65533 for what is none.
func (m model) chars(s string) []string {
	var out []string
	for len(s) > 0 {
		n := 1
		for n < len(s) && m.begins[s[:n]] && (m.begins[s[:n+1]] || m.whole[s[:n+1]]) {
			n++
		}
		if m.whole[s[:n]] {
			out = append(out, s[:n])
		} else {
			out = append(out, other)
		}
		s = s[n:]
	}
	return out
}

// decode is what Decode should tell, and how many characters that has.
func (m model) decode(s string) (string, int) {
	text := strings.Join(m.chars(s), "")
	text = strings.ReplaceAll(text, "\x00", other)
	text = strings.ReplaceAll(text, "\r\n", "\n")
	text = strings.ReplaceAll(text, "\r", "\n")
	return text, len(m.chars(text))
}

func (m model) look(t *testing.T, s string) {
	t.Helper()
	want, count := m.decode(s)
	if got := Decode([]byte(s)); got != want {
		t.Errorf("Decode(%q) = %q, not %q", s, got, want)
	}
	if got := Count(s); got != count {
		t.Errorf("Count(%q) = %d, not %d", s, got, count)
	}
	if Valid(s) != (s == want) {
		t.Errorf("Valid(%q) = %v", s, Valid(s))
	}
	if !Valid(want) {
		t.Errorf("Decode(%q) is not Valid", s)
	}
}

// P2.1: Encode of each number there is, and of some that are no character's.
func TestEncode(t *testing.T) {
	for n := -300; n <= 1114111+300; n++ {
		want := other
		if isChar(n) {
			want = bits(n)
		}
		if got := Encode(n); got != want {
			t.Fatalf("Encode(%d) = %q, not %q", n, got, want)
		}
	}
}

// P2.1: numbers that are far from any character's, and come near one when they are cut to fewer bits.
func TestEncodeFar(t *testing.T) {
	for _, n := range []int{math.MinInt, math.MinInt32, -1114111, -65, -1, 55296, 56000, 57343, 1114112, 1 << 21, math.MaxInt32, 1<<32 + 65, -1<<32 + 65, 1<<62 + 65, math.MaxInt} {
		if got := Encode(n); got != other {
			t.Errorf("Encode(%d) = %q", n, got)
		}
	}
}

// P2.1: how many bytes there are, at both sides of each limit.
func TestEncodeLimits(t *testing.T) {
	cases := map[int]string{
		0: "\x00", 13: "\r", 127: "\x7f", 128: "\xc2\x80", 2047: "\xdf\xbf", 2048: "\xe0\xa0\x80",
		55295: "\xed\x9f\xbf", 57344: "\xee\x80\x80", 65533: other, 65534: "\xef\xbf\xbe", 65535: "\xef\xbf\xbf",
		65536: "\xf0\x90\x80\x80", 1114111: "\xf4\x8f\xbf\xbf",
	}
	for n, want := range cases {
		if got := Encode(n); got != want {
			t.Errorf("Encode(%d) = %q", n, got)
		}
	}
}

// P2.1, P2.2: bytes of all lengths to four out of those at which something changes, by the model.
func TestDecodeModel(t *testing.T) {
	m := newModel()
	edges := []byte{0, 10, 13, 'a', 0x7F, 0x80, 0x8F, 0x90, 0x9F, 0xA0, 0xBF, 0xC0, 0xC1, 0xC2, 0xDF, 0xE0, 0xE1, 0xEC, 0xED, 0xEE, 0xEF, 0xF0, 0xF1, 0xF3, 0xF4, 0xF5, 0xFF}
	m.look(t, "")
	level := []string{""}
	for range 3 {
		var next []string
		for _, s := range level {
			for _, c := range edges {
				next = append(next, s+string([]byte{c}))
			}
		}
		for _, s := range next {
			m.look(t, s)
			m.look(t, s+"\x80")
			m.look(t, s+"z")
		}
		level = next
	}
	for i := range 1 << 16 {
		m.look(t, string([]byte{byte(i >> 8), byte(i)}))
	}
	for k := range 256 {
		m.look(t, "\xe2\x82"+string([]byte{byte(k)}))
		m.look(t, "\xf0\x9f\x98"+string([]byte{byte(k)})+"\x80")
		m.look(t, "\xf4\x8f"+string([]byte{byte(k)})+"\xbf")
	}
}

// P2.2: what becomes of bytes that are no character's, of 0, and of 13.
func TestDecode(t *testing.T) {
	cases := []struct{ in, want string }{
		{"", ""}, {"a", "a"}, {"äb€😀", "äb€😀"}, {other, other}, {"\xef\xbb\xbfa", "\xef\xbb\xbfa"},
		{"\xe2\x82a", other + "a"},                          // cut off by the next byte
		{"\xe2\x82", other},                                 // cut off by the end
		{"\xe2", other},                                     //
		{"\xf0\x9f\x98", other},                             //
		{"\xf0\x9f\x98\xe2\x82\xac", other + "€"},           // cut off by a character
		{"\xe2\x82\xe2\x82", other + other},                 //
		{"\xc2\r\n", other + "\n"},                          // cut off by the end of a line
		{"\xc2\x00", other + other},                         // cut off by a byte 0
		{"\x80", other},                                     // begins none
		{"\x80\xbf", other + other},                         //
		{"a\xffb", "a" + other + "b"},                       //
		{"\xc0\x80", other + other},                         // too long a form of 0
		{"\xc1\xbf", other + other},                         //
		{"\xe0\x80\xaf", other + other + other},             // too long a form of 47
		{"\xe0\x9f\xbf", other + other + other},             //
		{"\xf0\x80\x80\xaf", other + other + other + other}, //
		{"\xf0\x8f\xbf\xbf", other + other + other + other}, //
		{"\xed\xa0\x80", other + other + other},             // 55296
		{"\xed\xbf\xbf", other + other + other},             // 57343
		{"\xf4\x90\x80\x80", other + other + other + other}, // 1114112
		{"\xf5\x80\x80\x80", other + other + other + other}, //
		{"\xf8\x88\x80\x80\x80", strings.Repeat(other, 5)},  //
		{"\x00", other}, {"a\x00b", "a" + other + "b"}, {"\x00\x00", other + other},
		{"\r", "\n"}, {"\n", "\n"}, {"\r\n", "\n"}, {"\n\r", "\n\n"}, {"\r\r", "\n\n"}, {"\r\r\n", "\n\n"}, {"\r\n\n", "\n\n"}, {"\r\n\r\n", "\n\n"},
		{"a\rb", "a\nb"}, {"\ra\n", "\na\n"}, {"\r\x00\n", "\n" + other + "\n"}, {"\r\xff\n", "\n" + other + "\n"},
		{"\xe2\x80\xa8\x0b\x0c\xc2\x85", "\xe2\x80\xa8\x0b\x0c\xc2\x85"}, // no other end of a line is one
	}
	for _, c := range cases {
		if got := Decode([]byte(c.in)); got != c.want {
			t.Errorf("Decode(%q) = %q, not %q", c.in, got, c.want)
		}
		if Valid(c.in) != (c.in == c.want) {
			t.Errorf("Valid(%q) = %v", c.in, Valid(c.in))
		}
	}
	if Decode(nil) != "" {
		t.Error("Decode(nil): not empty")
	}
}

// P2.2: Valid of what is text, and of what is not, behind much that is.
func TestValid(t *testing.T) {
	long := strings.Repeat("abcdä😀\n", 50)
	for _, s := range []string{"", "a", "\n", "\x01\x7f\x0b", other, "\xef\xbf\xbf", "\xf4\x8f\xbf\xbf", "\xed\x9f\xbf"} {
		if !Valid(s) || !Valid(long+s+long) {
			t.Errorf("%q is not Valid", s)
		}
	}
	for _, s := range []string{"\x00", "\r", "\r\n", "\x80", "\xe2\x82", "\xc0\x80", "\xed\xa0\x80", "\xf4\x90\x80\x80"} {
		if Valid(s) || Valid(long+s+long) || Valid(long+s) {
			t.Errorf("%q is Valid", s)
		}
	}
}

// P2.2: Count counts what Decode has, not what comes in.
func TestCount(t *testing.T) {
	cases := map[string]int{
		"": 0, "a": 1, "äb": 2, "€": 1, "😀": 1, "\r": 1, "\r\n": 1, "\n\r": 2, "\r\r\n": 2, "\x00": 1, other: 1,
		"\xe2\x82": 1, "\xe2\x82a": 2, "\xc0\x80": 2, "\xed\xa0\x80": 3, "\xf0\x9f\x98\xff": 2, "e\xcc\x81": 2,
	}
	for s, want := range cases {
		if got := Count(s); got != want {
			t.Errorf("Count(%q) = %d, not %d", s, got, want)
		}
	}
}

// P2.3: what is Encoded, but of 0 and 13, is Valid, and one character.
func TestEncodedIsValid(t *testing.T) {
	for n := -5; n <= 1114111+5; n++ {
		s := Encode(n)
		if Valid(s) != (n != 0 && n != 13) || Count(s) != 1 {
			t.Fatalf("Encode(%d): Valid %v, Count %d", n, Valid(s), Count(s))
		}
	}
}

// P2.3: text of bytes from 32 to 126 stays as it is; so does the whole of what may be in a text.
func TestStays(t *testing.T) {
	var plain, all strings.Builder
	for n := range 1114112 {
		if 32 <= n && n <= 126 {
			plain.WriteString(bits(n))
		}
		if isChar(n) && n != 0 && n != 13 {
			all.WriteString(bits(n))
		}
	}
	for _, s := range []string{plain.String(), all.String()} {
		if Decode([]byte(s)) != s || !Valid(s) {
			t.Error("text does not stay")
		}
	}
	if Count(plain.String()) != 95 || Count(all.String()) != 1114112-2048-2 {
		t.Error("text has another count")
	}
}

// P2.3: what is decoded is Valid, and decoded again it is the same, of bytes by a rule that strews them.
func TestDecodedIsValid(t *testing.T) {
	x := uint32(1)
	for range 3000 {
		b := make([]byte, x>>8%40)
		for i := range b {
			x = x*1664525 + 1013904223
			b[i] = byte(x >> 24)
		}
		x = x*1664525 + 1013904223
		s := Decode(b)
		if !Valid(s) || Decode([]byte(s)) != s || Count(string(b)) != len([]rune(s)) {
			t.Errorf("Decode(%q) = %q", b, s)
		}
	}
}

// Rules: bytes that are handed in stay, and do not show through what was answered.
func TestDecodeKeepsApart(t *testing.T) {
	for _, text := range []string{"abc", "a\rb\xff"} {
		b := []byte(text)
		s := Decode(b)
		if string(b) != text {
			t.Errorf("Decode changed %q into %q", text, b)
		}
		was := strings.Clone(s)
		for i := range b {
			b[i] = 'z'
		}
		if s != was {
			t.Errorf("Decode(%q) shares memory", text)
		}
	}
}

// P0: great inputs come to an end, too.
func TestGreat(t *testing.T) {
	for _, c := range []byte{0, 13, 'a', 0x80, 0xE2, 0xF0, 0xFF} {
		b := slices.Repeat([]byte{c}, 1<<20)
		if s := Decode(b); !Valid(s) || Count(string(b)) != 1<<20 {
			t.Errorf("great input of %d: not so", c)
		}
	}
	great := slices.Repeat([]byte{0xF0, 0x9F, 0x98, '\r'}, 1<<22)
	if s := Decode(great); Count(s) != 1<<23 || Count(string(great)) != 1<<23 {
		t.Error("greatest input: not so")
	}
}
