package escape

import (
	"strings"
	"testing"

	"hoarding/charref"
)

// The signs that are written otherwise, and how, as the chapter tells them; the last one in values alone.
var model = []struct{ sign, ref string }{
	{"&", "&amp;"}, {"<", "&lt;"}, {">", "&gt;"}, {"\u00a0", "&nbsp;"}, {"\"", "&quot;"},
}

// written is Text, or Value, by the chapter's words: the sign with which s begins, or else a byte, one behind the other.
func written(s string, value bool) string {
	signs := model
	if !value {
		signs = model[:len(model)-1]
	}
	var out strings.Builder
	for s != "" {
		ref, n := s[:1], 1
		for _, c := range signs {
			if strings.HasPrefix(s, c.sign) {
				ref, n = c.ref, len(c.sign)
			}
		}
		out.WriteString(ref)
		s = s[n:]
	}
	return out.String()
}

// look holds all that is told of s against the model, and against what follows (P5.2).
func look(t *testing.T, s string) {
	t.Helper()
	text, value := Text(s), Value(s)
	if want := written(s, false); text != want {
		t.Fatalf("Text(%q) = %q, not %q", s, text, want)
	}
	if want := written(s, true); value != want {
		t.Fatalf("Value(%q) = %q, not %q", s, value, want)
	}
	if Size(s) != len(value) {
		t.Fatalf("Size(%q) = %d, not %d", s, Size(s), len(value))
	}
	for _, out := range []string{text, value} {
		if charref.Decode(out, false) != s || charref.Decode(out, true) != s {
			t.Fatalf("%q, written as %q, is read as %q, in a value as %q", s, out, charref.Decode(out, false), charref.Decode(out, true))
		}
		if strings.ContainsAny(out, "<>") {
			t.Fatalf("%q is written as %q", s, out)
		}
		if len(out) > 6*len(s) {
			t.Fatalf("%q has %d bytes when it is written", s, len(out))
		}
	}
	if strings.Contains(value, "\"") {
		t.Fatalf("Value(%q) = %q", s, value)
	}
}

// P5.1: ordinary texts, each sign, side by side and at both ends, what was written before, and the empty text.
func TestWritten(t *testing.T) {
	cases := []struct{ s, text, value string }{
		{"", "", ""}, {"a", "a", "a"}, {"a<b", "a&lt;b", "a&lt;b"}, {"a<b\"", "a&lt;b\"", "a&lt;b&quot;"},
		{"&", "&amp;", "&amp;"}, {"<", "&lt;", "&lt;"}, {">", "&gt;", "&gt;"}, {"\"", "\"", "&quot;"}, {"\u00a0", "&nbsp;", "&nbsp;"},
		{"&<>\"\u00a0", "&amp;&lt;&gt;\"&nbsp;", "&amp;&lt;&gt;&quot;&nbsp;"}, {"\u00a0\"><&", "&nbsp;\"&gt;&lt;&amp;", "&nbsp;&quot;&gt;&lt;&amp;"},
		{"&&&", "&amp;&amp;&amp;", "&amp;&amp;&amp;"}, {"\"\"", "\"\"", "&quot;&quot;"}, {"\u00a0\u00a0", "&nbsp;&nbsp;", "&nbsp;&nbsp;"},
		{"&a&", "&amp;a&amp;", "&amp;a&amp;"}, {"\"a\"", "\"a\"", "&quot;a&quot;"}, {"\u00a0a\u00a0", "&nbsp;a&nbsp;", "&nbsp;a&nbsp;"},
		{"&amp;", "&amp;amp;", "&amp;amp;"}, {"&amp;lt;", "&amp;amp;lt;", "&amp;amp;lt;"}, {"&quot;", "&amp;quot;", "&amp;quot;"}, {"&nbsp;", "&amp;nbsp;", "&amp;nbsp;"},
		{"&#38;", "&amp;#38;", "&amp;#38;"}, {"&copy=1", "&amp;copy=1", "&amp;copy=1"}, {"amp;", "amp;", "amp;"}, {"&\"lt;", "&amp;\"lt;", "&amp;&quot;lt;"},
		{"<b title=\"x\">1 & 2</b>", "&lt;b title=\"x\"&gt;1 &amp; 2&lt;/b&gt;", "&lt;b title=&quot;x&quot;&gt;1 &amp; 2&lt;/b&gt;"},
		{"<!--x-->", "&lt;!--x--&gt;", "&lt;!--x--&gt;"}, {"it's `a`=b", "it's `a`=b", "it's `a`=b"}, {"a\tb\n c\f\r\n", "a\tb\n c\f\r\n", "a\tb\n c\f\r\n"},
		{"ä€😀", "ä€😀", "ä€😀"}, {"ä<€>😀\"", "ä&lt;€&gt;😀\"", "ä&lt;€&gt;😀&quot;"}, {"\x00<\x00", "\x00&lt;\x00", "\x00&lt;\x00"}, {"\uFFFD&\uFFFD", "\uFFFD&amp;\uFFFD", "\uFFFD&amp;\uFFFD"},
		{"＜＞＆＂", "＜＞＆＂", "＜＞＆＂"}, {"“a” ‹b› «c»", "“a” ‹b› «c»", "“a” ‹b› «c»"}, {"a\u2007b\u202f", "a\u2007b\u202f", "a\u2007b\u202f"},
	}
	for _, c := range cases {
		if got := Text(c.s); got != c.text {
			t.Errorf("Text(%q) = %q, not %q", c.s, got, c.text)
		}
		if got := Value(c.s); got != c.value {
			t.Errorf("Value(%q) = %q, not %q", c.s, got, c.value)
		}
		if got := Size(c.s); got != len(c.value) {
			t.Errorf("Size(%q) = %d, not %d", c.s, got, len(c.value))
		}
		look(t, c.s)
	}
}

// P5.1: the character 160 alone is written otherwise, and not the bytes of which it is made; bytes that are no text stay.
func TestBytes(t *testing.T) {
	cases := map[string]string{
		"\xc2\xa0": "&nbsp;", "\xc2": "\xc2", "\xa0": "\xa0", "\xa0\xc2": "\xa0\xc2", "\xc2\xc2\xa0": "\xc2&nbsp;", "\xc2\xa0\xa0": "&nbsp;\xa0", "\xc2<\xa0": "\xc2&lt;\xa0",
		"\xc2\xa0\xc2": "&nbsp;\xc2", "\xe2\xc2\xa0": "\xe2&nbsp;", "\xe2\x82\xc2\xa0": "\xe2\x82&nbsp;", "\xf0\x9f\x98\xc2\xa0\x80": "\xf0\x9f\x98&nbsp;\x80",
		"\xc2\xa1": "\xc2\xa1", "\xc3\xa0": "\xc3\xa0", "\xe2\x80\xa0": "\xe2\x80\xa0", "\xe0\x82\xa0": "\xe0\x82\xa0", "\xc2\x82\xa0": "\xc2\x82\xa0", "\xff": "\xff", "\xff\xfe&\x80": "\xff\xfe&amp;\x80",
		"\xc0\xbc": "\xc0\xbc", "\xc0\xa6": "\xc0\xa6", "\xe2\x82": "\xe2\x82", "\xe2\x82<": "\xe2\x82&lt;", "&\xc3": "&amp;\xc3", "\xed\xa0\x80>": "\xed\xa0\x80&gt;", "\xf4\x90\x80\x80": "\xf4\x90\x80\x80",
	}
	for s, want := range cases {
		if Text(s) != want || Value(s) != want || Size(s) != len(want) {
			t.Errorf("%q is written as %q, in a value as %q, of %d bytes", s, Text(s), Value(s), Size(s))
		}
		look(t, s)
	}
	for i := range 1 << 16 {
		two := string([]byte{byte(i >> 8), byte(i)})
		look(t, two)
		look(t, two[:1])
	}
}

// P5.1, P5.2: all texts of up to four pieces: each sign, parts of the character 160, what looks like a reference, and bytes that are no text.
func TestModel(t *testing.T) {
	pieces := []string{"&", "<", ">", "\"", "\u00a0", "\xc2", "\xa0", "a", "lt;", "amp", "#38", ";", "€", "\xff"}
	level := []string{""}
	for range 4 {
		var next []string
		for _, s := range level {
			for _, p := range pieces {
				look(t, s+p)
				next = append(next, s+p)
			}
		}
		level = next
	}
}

// P5.1: of all characters those five alone are written otherwise.
func TestEachCharacter(t *testing.T) {
	refs := map[rune]string{'&': "&amp;", '<': "&lt;", '>': "&gt;", '"': "&quot;", 160: "&nbsp;"}
	for r := range rune(0x110000) {
		s := string(r)
		text, value := s, s
		if ref, is := refs[r]; is {
			text, value = ref, ref
		}
		if r == '"' {
			text = s
		}
		if Text(s) != text || Value(s) != value || Size(s) != len(value) {
			t.Fatalf("character %d is written as %q, in a value as %q, of %d bytes", r, Text(s), Value(s), Size(s))
		}
	}
}

// P5.1: Size counts what Value has, not what Text has, and not what comes in.
func TestSize(t *testing.T) {
	cases := map[string]int{
		"": 0, "a": 1, "&": 5, "<": 4, ">": 4, "\"": 6, "\u00a0": 6, "€": 3, "\xff": 1, "\xc2": 1, "&amp;": 9, "a\"b": 8,
		"&<>\"\u00a0": 25, "\u00a0\u00a0": 12, "\xc2\xc2\xa0": 7, "ä<": 6, "\x00\r": 2,
	}
	for s, want := range cases {
		if got := Size(s); got != want {
			t.Errorf("Size(%q) = %d, not %d", s, got, want)
		}
	}
}

// P5.2: what was written, written once more and read once, is what was written.
func TestTwice(t *testing.T) {
	for _, s := range []string{"", "a<b", "&amp;", "&lt;&gt;", "\"&quot;\"", "\u00a0&nbsp;", "&#38;#38;", "&&&", "&copy=1&not", "\xc2&\xa0"} {
		for _, out := range []string{Text(s), Value(s)} {
			if charref.Decode(Text(out), false) != out || charref.Decode(Value(out), true) != out {
				t.Errorf("%q does not come back", out)
			}
		}
	}
}

// P0, P5.2: great texts come to an end, too, and are written whole.
func TestGreat(t *testing.T) {
	cases := []struct{ piece, text, value string }{
		{"&", "&amp;", "&amp;"}, {"\"", "\"", "&quot;"}, {"\u00a0", "&nbsp;", "&nbsp;"}, {"a", "a", "a"}, {"\xc2", "\xc2", "\xc2"}, {"a<€", "a&lt;€", "a&lt;€"},
	}
	for _, c := range cases {
		k := 1 << 24 / len(c.piece)
		s := strings.Repeat(c.piece, k)
		if Text(s) != strings.Repeat(c.text, k) || Value(s) != strings.Repeat(c.value, k) || Size(s) != k*len(c.value) {
			t.Errorf("great text of %q: not so", c.piece)
		}
	}
}
