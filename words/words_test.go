package words

import (
	"slices"
	"strconv"
	"strings"
	"testing"
)

const blanks = "\t\n\f\r "

// model is the words of s, by the chapter's words: parted at each of the five blanks, the empty ones left out.
func model(s string) []string {
	out := []string{}
	word := []byte{}
	for _, c := range []byte(s + " ") {
		if strings.IndexByte(blanks, c) < 0 {
			word = append(word, c)
			continue
		}
		if len(word) > 0 {
			out = append(out, string(word))
		}
		word = word[:0]
	}
	return out
}

// texts are all texts of up to five of the pieces: blanks, letters, what looks like a blank, and bytes that are no text.
func texts() []string {
	pieces := []string{" ", "\n", "a", "b", "\v", "\u00a0", "\xe2"}
	out := []string{""}
	from := 0
	for range 5 {
		to := len(out)
		for _, s := range out[from:to] {
			for _, p := range pieces {
				out = append(out, s+p)
			}
		}
		from = to
	}
	return out
}

// P3.1: Split of ordinary texts, of none, of blanks alone, and of each blank at both ends and between words.
func TestSplit(t *testing.T) {
	cases := []struct {
		in   string
		want []string
	}{
		{"", nil}, {" ", nil}, {blanks, nil}, {"a", []string{"a"}}, {"a  b", []string{"a", "b"}}, {" a\n bc ", []string{"a", "bc"}},
		{"A a A", []string{"A", "a", "A"}}, {"b a", []string{"b", "a"}}, {"one,two three", []string{"one,two", "three"}},
		{"a" + blanks + "b", []string{"a", "b"}}, {blanks + "a" + blanks, []string{"a"}}, {"\r\na\r\n", []string{"a"}},
		{"a\vb", []string{"a\vb"}}, {"a\u00a0b c", []string{"a\u00a0b", "c"}}, {"a\u0085b", []string{"a\u0085b"}},
		{"a\u2003b\u3000c", []string{"a\u2003b\u3000c"}}, {"a\x00b", []string{"a\x00b"}}, {"\x1f \x1c", []string{"\x1f", "\x1c"}},
		{"ä ö", []string{"ä", "ö"}}, {"\xff \xfe", []string{"\xff", "\xfe"}}, {"\xe2 \x82", []string{"\xe2", "\x82"}}, {"\xa0\t\x85", []string{"\xa0", "\x85"}},
		{"\u0120\u010a\u0109", []string{"\u0120\u010a\u0109"}}, // cut to a byte, each of these is a blank
		{"\u2020 \u200a", []string{"\u2020", "\u200a"}},
	}
	for _, c := range cases {
		if got := Split(c.in); !slices.Equal(got, c.want) {
			t.Errorf("Split(%q) = %q, not %q", c.in, got, c.want)
		}
	}
}

// P3.1: each byte by itself, at both ends, and between words.
func TestSplitBytes(t *testing.T) {
	for i := range 256 {
		c := string([]byte{byte(i)})
		for _, s := range []string{c, c + c, c + "x", "x" + c, "x" + c + "y", c + "x" + c + c + "y" + c} {
			if got := Split(s); !slices.Equal(got, model(s)) {
				t.Errorf("Split(%q) = %q", s, got)
			}
		}
	}
}

// P3.1, P3.2: Split by the model, of all short texts; Split of Join of what was split is the same.
func TestSplitModel(t *testing.T) {
	for _, s := range texts() {
		got := Split(s)
		if !slices.Equal(got, model(s)) {
			t.Fatalf("Split(%q) = %q", s, got)
		}
		if slices.Contains(got, "") {
			t.Fatalf("Split(%q): an empty word", s)
		}
		if again := Split(Join(got)); !slices.Equal(again, got) {
			t.Fatalf("Split of Join of Split(%q) = %q", s, again)
		}
	}
}

// P3.1: Join of ordinary words, of none, and of what no text would be split into.
func TestJoin(t *testing.T) {
	cases := []struct {
		in   []string
		want string
	}{
		{nil, ""}, {[]string{}, ""}, {[]string{"a"}, "a"}, {[]string{"a", "bc", "a"}, "a bc a"},
		{[]string{""}, ""}, {[]string{"", ""}, " "}, {[]string{"", "a", ""}, " a "},
		{[]string{"a b", "c"}, "a b c"}, {[]string{" ", "\n"}, "  \n"}, {[]string{" a ", "b "}, " a  b "},
		{[]string{"\xff", "ä"}, "\xff ä"}, {[]string{"\xe2", "\x82"}, "\xe2 \x82"},
	}
	for _, c := range cases {
		if got := Join(c.in); got != c.want {
			t.Errorf("Join(%q) = %q, not %q", c.in, got, c.want)
		}
	}
}

// P3.1: In of ordinary lists; of parts of words, of other capitals, of no word, and of words with blanks in them.
func TestIn(t *testing.T) {
	cases := []struct {
		list, word string
		want       bool
	}{
		{"a bc", "a", true}, {"a bc", "bc", true}, {"a bc", "b", false}, {"a bc", "c", false}, {"a bc", "abc", false}, {"a bc", "bcd", false},
		{" a\t\nbc\f\r", "a", true}, {" a\t\nbc\f\r", "bc", true}, {"a a", "a", true}, {"x", "x", true}, {"xa", "a", false}, {"ax", "a", false},
		{"xa a", "a", true}, {"ax a", "a", true}, {"aa aaa", "a", false}, {"a", "A", false}, {"A", "a", false},
		{"", "", false}, {"", "a", false}, {" ", "", false}, {" ", " ", false}, {"a b", "", false}, {"a  b", "", false}, {"a b", " ", false},
		{"a b", "a b", false}, {"a b c", "a b", false}, {"a", " a", false}, {" a ", " a ", false}, {"a\n", "a\n", false}, {"a\tb", "a\tb", false},
		{"a\vb", "a", false}, {"a\vb", "a\vb", true}, {"a\u00a0b", "a", false}, {"ä ö", "ö", true}, {"\xff a", "\xff", true}, {"\xe2\x82\xac", "\xe2\x82", false}, {"\x00 a", "\x00", true},
	}
	for _, c := range cases {
		if In(c.list, c.word) != c.want {
			t.Errorf("In(%q, %q) = %v", c.list, c.word, !c.want)
		}
	}
}

// P3.1: a word is In a text just if it is one of its words, of all short texts.
func TestInModel(t *testing.T) {
	asked := []string{"", " ", "a", "b", "ab", "ba", "aa", "a b", " a", "a ", "\n", "\v", "\u00a0", "a\va", "\xe2", "\xe2a", "abab"}
	for _, s := range texts() {
		list := model(s)
		for _, w := range append(asked, list...) {
			if In(s, w) != slices.Contains(list, w) {
				t.Fatalf("In(%q, %q) = %v", s, w, In(s, w))
			}
		}
	}
}

// lists are the lists of which Once is asked, each with what it comes to.
func lists() []struct{ in, want []string } {
	return []struct{ in, want []string }{
		{nil, nil}, {[]string{}, nil}, {[]string{"a"}, []string{"a"}}, {[]string{"a", "b"}, []string{"a", "b"}},
		{[]string{"b", "a", "b", "c", "a", "a"}, []string{"b", "a", "c"}}, {[]string{"a", "a", "a"}, []string{"a"}},
		{[]string{"a", "A", "a"}, []string{"a", "A"}}, {[]string{"z", "y", "z", "x", "y"}, []string{"z", "y", "x"}},
		{[]string{""}, []string{""}}, {[]string{"", "a", ""}, []string{"", "a"}},
		{[]string{"a b", "b", "a", "a b", "a  b"}, []string{"a b", "b", "a", "a  b"}},
		{[]string{" a", "a", "a ", " a", "\n", " ", "\n"}, []string{" a", "a", "a ", "\n", " "}},
		{[]string{"\xff", "\xfe", "\xff", "\uFFFD"}, []string{"\xff", "\xfe", "\uFFFD"}}, {[]string{"\x00", "", "\x00"}, []string{"\x00", ""}},
	}
}

// P3.1, P3.2: Once of ordinary lists, of the empty one, and of words that are empty or have blanks in them; Once of Once is Once.
func TestOnce(t *testing.T) {
	for _, c := range lists() {
		got := Once(c.in)
		if !slices.Equal(got, c.want) {
			t.Errorf("Once(%q) = %q, not %q", c.in, got, c.want)
		}
		if again := Once(got); !slices.Equal(again, got) {
			t.Errorf("Once of Once(%q) = %q", c.in, again)
		}
	}
}

// P3.1, P3.2: Once of what short texts are split into: each word of it, in the order of the first ones, none of them twice.
func TestOnceModel(t *testing.T) {
	for _, s := range texts() {
		var want []string
		for _, w := range model(s) {
			if !slices.Contains(want, w) {
				want = append(want, w)
			}
		}
		got := Once(Split(s))
		if !slices.Equal(got, want) || !slices.Equal(Once(got), got) {
			t.Fatalf("Once of Split(%q) = %q", s, got)
		}
	}
}

// Rules: the list that is handed in stays as it is, what lies behind its length too; what is answered is another list.
func TestOnceKeepsApart(t *testing.T) {
	for _, c := range lists() {
		room := append(slices.Clone(c.in), "behind", "a")
		was := slices.Clone(room)
		got := Once(room[:len(c.in)])
		if !slices.Equal(got, c.want) || !slices.Equal(room, was) {
			t.Errorf("Once(%q) = %q, and the list is %q", c.in, got, room)
		}
		for i := range got {
			got[i] = "other"
		}
		if !slices.Equal(room, was) {
			t.Errorf("Once(%q) shares its list", c.in)
		}
		if Join(room[:len(c.in)]) != strings.Join(c.in, " ") || !slices.Equal(room, was) {
			t.Errorf("Join changed its list into %q", room)
		}
	}
}

// P0: great texts and lists come to an end, too.
func TestGreat(t *testing.T) {
	pairs := strings.Repeat("a ", 1<<23)
	if l := Split(pairs); len(l) != 1<<23 || Join(l)+" " != pairs || !slices.Equal(Once(l), []string{"a"}) {
		t.Error("a great text of words: not so")
	}
	if In(pairs, "b") || In(pairs, "a ") || !In(pairs+"b", "b") {
		t.Error("In of a great text: not so")
	}
	for _, c := range []string{" ", "\n"} {
		if s := strings.Repeat(c, 1<<24); len(Split(s)) != 0 || In(s, c) {
			t.Error("a great text of blanks: not so")
		}
	}
	one := strings.Repeat("a", 1<<24)
	if l := Split(one); len(l) != 1 || l[0] != one || !In(one, one) || In(one, one[1:]) {
		t.Error("a great word: not so")
	}
	var many []string
	for i := range 1 << 20 {
		many = append(many, strconv.Itoa(i))
	}
	if got := Once(append(many, many...)); !slices.Equal(got, many) {
		t.Error("Once of a great list: not so")
	}
}
