package charref

import (
	"math"
	"math/big"
	"regexp"
	"strconv"
	"strings"
	"testing"
)

// The names and numbers as the chapter tells them.
const (
	either = "amp 38, AMP 38, lt 60, LT 60, gt 62, GT 62, quot 34, QUOT 34, nbsp 160, copy 169, reg 174, shy 173, para 182, sect 167, times 215, divide 247, micro 181, middot 183, not 172, deg 176, yen 165, cent 162, pound 163, laquo 171, raquo 187"
	closed = "apos 39, colon 58, Tab 9, NewLine 10, lpar 40, rpar 41, sol 47, num 35, semi 59, equals 61, excl 33, commat 64, quest 63, comma 44, period 46, lbrace 123, rbrace 125, lsqb 91, rsqb 93, grave 96, hellip 8230, mdash 8212, ndash 8211, lsquo 8216, rsquo 8217, ldquo 8220, rdquo 8221, bull 8226, euro 8364, trade 8482, larr 8592, rarr 8594, zwj 8205, zwnj 8204, notin 8713, ne 8800"
	others = "128 8364, 130 8218, 131 402, 132 8222, 133 8230, 134 8224, 135 8225, 136 710, 137 8240, 138 352, 139 8249, 140 338, 142 381, 145 8216, 146 8217, 147 8220, 148 8221, 149 8226, 150 8211, 151 8212, 152 732, 153 8482, 154 353, 155 8250, 156 339, 158 382, 159 376"
	bad    = "\uFFFD"
	alnum  = "ABCDEFGHIJKLMNOPQRSTUVWXYZabcdefghijklmnopqrstuvwxyz0123456789"
)

// pairs goes through a list of the chapter's.
func pairs(list string, do func(name string, n int)) {
	for _, pair := range strings.Split(list, ", ") {
		name, number, _ := strings.Cut(pair, " ")
		n, err := strconv.Atoi(number)
		if err != nil {
			panic(pair)
		}
		do(name, n)
	}
}

// names is all names, with their semicolons where they have one, and what each of them tells.
func names() map[string]string {
	all := map[string]string{}
	pairs(either, func(name string, n int) {
		all[name] = string(rune(n))
		all[name+";"] = string(rune(n))
	})
	pairs(closed, func(name string, n int) {
		all[name+";"] = string(rune(n))
	})
	return all
}

// numbered is Numbered by the chapter's words.
func numbered(n int) string {
	if n <= 0 || 55296 <= n && n <= 57343 || n > 1114111 {
		return bad
	}
	text := string(rune(n))
	pairs(others, func(name string, other int) {
		if name == strconv.Itoa(n) {
			text = string(rune(other))
		}
	})
	return text
}

// model reads references by the chapter's words.
type model struct {
	names       map[string]string
	ten, digits *regexp.Regexp
}

func newModel() model {
	return model{names(), regexp.MustCompile(`^&#([0-9]+);?`), regexp.MustCompile(`^&#[xX]([0-9a-fA-F]+);?`)}
}

// number is what a reference of such digits tells.
func number(digits string, base int) string {
	n, _ := new(big.Int).SetString(digits, base)
	if n.Cmp(big.NewInt(1114111)) > 0 {
		return bad
	}
	return numbered(int(n.Int64()))
}

func (m model) read(s string, value bool) (string, int) {
	if got := m.ten.FindStringSubmatch(s); got != nil {
		return number(got[1], 10), len(got[0])
	}
	if got := m.digits.FindStringSubmatch(s); got != nil {
		return number(got[1], 16), len(got[0])
	}
	best := ""
	for name := range m.names {
		if strings.HasPrefix(s, "&"+name) && len(name) > len(best) {
			best = name
		}
	}
	if best == "" {
		return "", 0
	}
	behind := s[1+len(best):]
	if value && !strings.HasSuffix(best, ";") && behind != "" && strings.IndexByte("="+alnum, behind[0]) >= 0 {
		return "", 0
	}
	return m.names[best], 1 + len(best)
}

func (m model) decode(s string, value bool) string {
	out := ""
	for s != "" {
		text, n := m.read(s, value)
		if n == 0 {
			text, n = s[:1], 1
		}
		out, s = out+text, s[n:]
	}
	return out
}

// look holds Read and Decode of s against the model.
func (m model) look(t *testing.T, s string) {
	t.Helper()
	for _, value := range []bool{false, true} {
		want, n := m.read(s, value)
		if got, k := Read(s, value); got != want || k != n {
			t.Errorf("Read(%q, %v) = %q, %d, not %q, %d", s, value, got, k, want, n)
		}
		if got := Decode(s, value); got != m.decode(s, value) {
			t.Errorf("Decode(%q, %v) = %q, not %q", s, value, got, m.decode(s, value))
		}
	}
}

// P4.1: each name, with its semicolon and without.
func TestNamed(t *testing.T) {
	all := names()
	if len(all) != 25*2+36 {
		t.Fatalf("%d names", len(all))
	}
	for name, want := range all {
		if got, ok := Named(name); got != want || !ok {
			t.Errorf("Named(%q) = %q, %v", name, got, ok)
		}
	}
	pairs(closed, func(name string, n int) {
		if got, ok := Named(name); got != "" || ok {
			t.Errorf("Named(%q) = %q, %v", name, got, ok)
		}
	})
}

// P4.1: what is nearly a name is none: other capitals, a byte more or less at either end.
func TestNamedNearly(t *testing.T) {
	all := names()
	try := []string{"", ";", ";;", "&", "&;", "#38", "#38;", "amp;;", "&amp;", " amp", "amp ", "amp ;", "Amp", "aMP;", "tab;", "TAB;", "newline;", "Newline;", "NBSP", "COPY;", "notit;", "no", "in;", "apos;x", "äamp", "amp\x00", "\xff", strings.Repeat("amp", 9), strings.Repeat("a", 1<<16) + ";"}
	for name := range all {
		try = append(try, strings.ToUpper(name), strings.ToLower(name), name+";", name+"x", "x"+name, "&"+name, name[1:], name[:len(name)-1])
	}
	for _, name := range try {
		want, is := all[name]
		if got, ok := Named(name); got != want || ok != is {
			t.Errorf("Named(%q) = %q, %v", name, got, ok)
		}
	}
}

// P4.2: Numbered of each number there is, of those that stand for others, and of some that are no character's.
func TestNumbered(t *testing.T) {
	for n := -300; n <= 300; n++ {
		if got := Numbered(n); got != numbered(n) {
			t.Errorf("Numbered(%d) = %q, not %q", n, got, numbered(n))
		}
	}
	for n := 160; n <= 1114111+300; n++ {
		want := bad
		if n < 55296 || 57343 < n && n <= 1114111 {
			want = string(rune(n))
		}
		if got := Numbered(n); got != want {
			t.Fatalf("Numbered(%d) = %q", n, got)
		}
	}
	for _, n := range []int{math.MinInt, math.MinInt32, -1, 0, 1<<32 + 65, 1<<32 + 128, -1<<32 + 128, 1<<62 + 65, math.MaxInt32, math.MaxInt} {
		if got := Numbered(n); got != bad {
			t.Errorf("Numbered(%d) = %q", n, got)
		}
	}
}

// P4.2: some of them by hand; 13 and the five that stand for themselves stay.
func TestNumberedByHand(t *testing.T) {
	cases := map[int]string{
		0: bad, 1: "\x01", 9: "\t", 10: "\n", 13: "\r", 38: "&", 65: "A", 127: "\x7f", 128: "€", 129: "\u0081", 130: "‚", 141: "\u008d",
		142: "Ž", 143: "\u008f", 144: "\u0090", 145: "‘", 151: "—", 157: "\u009d", 158: "ž", 159: "Ÿ", 160: "\u00a0", 8364: "€",
		55295: "\ud7ff", 55296: bad, 57343: bad, 57344: "\ue000", 65533: bad, 65535: "\uffff", 128512: "😀", 1114111: "\U0010ffff", 1114112: bad,
	}
	for n, want := range cases {
		if got := Numbered(n); got != want {
			t.Errorf("Numbered(%d) = %q", n, got)
		}
	}
}

// readCase is what Read tells of s in text, and in a value.
type readCase struct {
	s     string
	text  string
	n     int
	value string
	k     int
}

// same is the case of s that is the same in text and in a value.
func same(s, text string, n int) readCase {
	return readCase{s, text, n, text, n}
}

func lookAt(t *testing.T, cases []readCase) {
	t.Helper()
	for _, c := range cases {
		if got, n := Read(c.s, false); got != c.text || n != c.n {
			t.Errorf("Read(%q, false) = %q, %d", c.s, got, n)
		}
		if got, n := Read(c.s, true); got != c.value || n != c.k {
			t.Errorf("Read(%q, true) = %q, %d", c.s, got, n)
		}
	}
}

// P4.3: references by names, the longest one; in values, what stands behind names without semicolons.
func TestReadNames(t *testing.T) {
	lookAt(t, []readCase{
		same("&amp;", "&", 5), same("&amp", "&", 4), same("&amp;amp;", "&", 5), same("&AMP;x", "&", 5), same("&lt;b", "<", 4),
		same("&notin;", "∉", 7), same("&not;in;", "¬", 5), same("&not", "¬", 4), same("&not it;", "¬", 4), same("&not.", "¬", 4),
		{"&notit;", "¬", 4, "", 0}, {"&notin", "¬", 4, "", 0}, {"&notin:", "¬", 4, "", 0}, {"&not=;", "¬", 4, "", 0},
		{"&copy=1", "©", 5, "", 0}, {"&copy1", "©", 5, "", 0}, {"&copyA", "©", 5, "", 0}, {"&copyz", "©", 5, "", 0},
		same("&copy;=1", "©", 6), same("&copy;1", "©", 6), same("&copy-", "©", 5), same("&copy&copy", "©", 5), same("&copyä", "©", 5), same("&copy\xff", "©", 5),
		same("&copy\x00", "©", 5), same("&copy_", "©", 5), same("&copy<", "©", 5), same("&copy/", "©", 5), same("&copy:", "©", 5), same("&copy@", "©", 5),
		same("&copy[", "©", 5), same("&copy`", "©", 5), same("&copy{", "©", 5), same("&copy\"", "©", 5),
		same("&ne;", "≠", 4), same("&ne", "", 0), same("&apos", "", 0), same("&apos ;", "", 0), same("&apos;x", "'", 6), same("&Tab;", "\t", 5), same("&tab;", "", 0),
		same("&NewLine;;", "\n", 9), same("&NewLine", "", 0), same("&comma;", ",", 7), same("&commat;", "@", 8), same("&comma", "", 0), {"&ampx", "&", 4, "", 0},
		{"&ltgt;", "<", 3, "", 0}, {"&quest", "", 0, "", 0}, same("&quest;", "?", 7), same("&nbsp;", "\u00a0", 6), {"&regs", "®", 4, "", 0},
	})
}

// P4.3: where there is none.
func TestReadNone(t *testing.T) {
	lookAt(t, []readCase{
		same("", "", 0), same("a", "", 0), same("amp;", "", 0), same(" &amp;", "", 0), same("a&amp;", "", 0), same("&", "", 0), same("& amp;", "", 0), same("&&amp;", "", 0),
		same("&;", "", 0), same("&Amp;", "", 0), same("&amq;", "", 0), same("&am", "", 0), same("&xamp;", "", 0), same("&#", "", 0), same("&#;", "", 0), same("&#a;", "", 0),
		same("&#x", "", 0), same("&#X;", "", 0), same("&#xg;", "", 0), same("&#x;1", "", 0), same("&# 65;", "", 0), same("&#-65;", "", 0), same("&#+65;", "", 0), same("&#x 41;", "", 0),
		same("&#xx41;", "", 0), same("&#amp;", "", 0), same("&65;", "", 0), same("& #65;", "", 0), same("&\xef\xbc\x83;", "", 0), same("&#٣;", "", 0), same("\xff&amp;", "", 0), same("&#,", "", 0), same("&#/", "", 0), same("&#:", "", 0),
	})
}

// P4.3: references by numbers, to both bases, with and without a semicolon; in values they are the same.
func TestReadNumbers(t *testing.T) {
	lookAt(t, []readCase{
		same("&#65;", "A", 5), same("&#65", "A", 4), same("&#65;;", "A", 5), same("&#65=", "A", 4), same("&#65a", "A", 4), same("&#65 ;", "A", 4), same("&#6x5;", "\x06", 3),
		same("&#x41;", "A", 6), same("&#X41;", "A", 6), same("&#x41", "A", 5), same("&#x41=", "A", 5), same("&#x41g", "A", 5), same("&#x4a;", "J", 6), same("&#X4A;", "J", 6), same("&#xfg", "\x0f", 4),
		same("&#0;", bad, 4), same("&#x0", bad, 4), same("&#000065;", "A", 9), same("&#x00041;", "A", 9), same("&#128;", "€", 6), same("&#x80;", "€", 6), same("&#x9F;", "Ÿ", 6), same("&#129;", "\u0081", 6),
		same("&#13;", "\r", 5), same("&#38;amp;", "&", 5), same("&#55296;", bad, 8), same("&#xDFFF;", bad, 8), same("&#x10FFFF;", "\U0010ffff", 10), same("&#x110000;", bad, 10),
		same("&#1114111;", "\U0010ffff", 10), same("&#1114112;", bad, 10), same("&#1114113", bad, 9), same("&#4294967361;", bad, 13), same("&#18446744073709551681;", bad, 23),
		same("&#x100000041;", bad, 13), same("&#x10000000000000041;", bad, 21), same("&#-1", "", 0),
	})
}

// P4.3: numbers of very many digits, to both bases, with noughts ahead too.
func TestReadLong(t *testing.T) {
	for _, k := range []int{1, 18, 19, 20, 21, 64, 1000, 1 << 20} {
		for _, digit := range []string{"1", "9", "8"} {
			d := strings.Repeat(digit, k)
			lookAt(t, []readCase{
				same("&#"+strings.Repeat("0", k)+"65;z", "A", k+5), same("&#x"+strings.Repeat("0", k)+"41;z", "A", k+6), same("&#"+strings.Repeat("0", k)+";", bad, k+3),
				same("&#1000000"+d+";", bad, k+10), same("&#x1000000"+d, bad, k+10), same("&#X"+strings.Repeat("f", k+6)+";", bad, k+10),
			})
		}
	}
}

// P4.1, P4.3: each name in all places, by the model; each byte stands behind it.
func TestReadModelNames(t *testing.T) {
	m := newModel()
	for name := range m.names {
		m.look(t, "&"+name)
		m.look(t, "&"+name[:len(name)-1])
		m.look(t, "&x"+name)
		m.look(t, "x&"+name+";&"+name)
		for i := range 256 {
			c := string([]byte{byte(i)})
			m.look(t, "&"+name+c)
			m.look(t, "&"+name+c+";")
		}
	}
}

// P4.3: all texts of up to three pieces out of which references are made, behind what begins one, by the model.
func TestReadModel(t *testing.T) {
	m := newModel()
	pieces := []string{"&", "#", "x", "X", "amp", "lt", "not", "in", "apos", "Tab", ";", "=", "0", "1", "38", "f", "g", " ", "ä", "\xff", "\x00"}
	level := []string{""}
	for range 3 {
		var next []string
		for _, s := range level {
			for _, p := range pieces {
				next = append(next, s+p)
			}
		}
		for _, s := range next {
			for _, front := range []string{"", "&", "&#", "&#x"} {
				m.look(t, front+s)
			}
		}
		level = next
	}
}

// P4.3: each number's reference, to both bases.
func TestReadEachNumber(t *testing.T) {
	for n := 0; n <= 1114111+300; n++ {
		want := Numbered(n)
		for _, s := range []string{"&#" + strconv.Itoa(n) + ";", "&#x" + strconv.FormatInt(int64(n), 16) + ";"} {
			if got, k := Read(s, true); got != want || k != len(s) {
				t.Fatalf("Read(%q) = %q, %d", s, got, k)
			}
		}
	}
}

// P4.3, P4.4: Decode replaces each reference, from the left, and nothing twice.
func TestDecode(t *testing.T) {
	cases := []struct{ s, text, value string }{
		{"", "", ""}, {"a", "a", "a"}, {"&", "&", "&"}, {"&&", "&&", "&&"}, {"a&b", "a&b", "a&b"}, {"&amp;", "&", "&"}, {"a&lt;b&gt;c", "a<b>c", "a<b>c"},
		{"&amp;lt;", "&lt;", "&lt;"}, {"&amp;amp;amp;", "&amp;amp;", "&amp;amp;"}, {"&#38;lt;", "&lt;", "&lt;"}, {"&#38;#60;", "&#60;", "&#60;"}, {"&amp#60;", "&#60;", "&#60;"}, {"&#x26;#x26;", "&#x26;", "&#x26;"},
		{"&amp;#38;", "&#38;", "&#38;"}, {"&&amp;", "&&", "&&"}, {"&&amp;lt;", "&&lt;", "&&lt;"}, {"&&lt;amp;", "&<amp;", "&<amp;"}, {"&&#97;mp;", "&amp;", "&amp;"}, {"&#&amp;", "&#&", "&#&"}, {"&#x&lt;", "&#x<", "&#x<"},
		{"&num;65;", "#65;", "#65;"}, {"&amp;num;65;", "&num;65;", "&num;65;"}, {"&am&amp;p;", "&am&p;", "&am&p;"}, {"&semi;", ";", ";"}, {"&amp&semi;", "&;", "&;"}, {"&lt&semi;", "<;", "<;"},
		{"&notin; &notit; &not", "∉ ¬it; ¬", "∉ &notit; ¬"}, {"&copy=1", "©=1", "&copy=1"}, {"a=1&copy=2&amp;lt=3&lt", "a=1©=2&lt=3<", "a=1&copy=2&lt=3<"}, {"&copy&copy&copyx", "©©©x", "©©&copyx"}, {"&copy&equals;1", "©=1", "©=1"},
		{"java&Tab;script&colon;x", "java\tscript:x", "java\tscript:x"}, {"&#0;&#128;&#xD800;", bad + "€" + bad, bad + "€" + bad}, {"&#65&#66", "AB", "AB"}, {"&#65B", "AB", "AB"}, {"\xff&amp;\x00\r", "\xff&\x00\r", "\xff&\x00\r"}, {"&#13;&#10;", "\r\n", "\r\n"},
	}
	for _, c := range cases {
		if got := Decode(c.s, false); got != c.text {
			t.Errorf("Decode(%q, false) = %q, not %q", c.s, got, c.text)
		}
		if got := Decode(c.s, true); got != c.value {
			t.Errorf("Decode(%q, true) = %q, not %q", c.s, got, c.value)
		}
	}
}

// P4.4: what has no & stays as it is, whatever it is.
func TestDecodeStays(t *testing.T) {
	every := ""
	for i := range 256 {
		if i != '&' {
			every += string([]byte{byte(i)})
		}
	}
	for _, s := range []string{"", "amp;", "#65;", "lt;gt;", "ä€😀", "\r\n\x00", "\xe2\x82", every, every + "amp;" + every} {
		if Decode(s, false) != s || Decode(s, true) != s {
			t.Errorf("%q does not stay", s)
		}
	}
}

// P4.4: text in which each & is written as a reference comes back as it was: nothing is decoded twice.
func TestDecodeOnce(t *testing.T) {
	for _, amp := range []string{"&amp;", "&AMP;", "&#38;", "&#x26;", "&#000038;"} {
		for _, s := range []string{"&amp;", "&lt;&gt;", "&#38;", "&amp;amp;", "&&&", "&#x26;lt;", "a&b=c&copy=1", "&notin;", "&NewLine;"} {
			written := strings.ReplaceAll(s, "&", amp)
			if Decode(written, false) != s || Decode(written, true) != s {
				t.Errorf("Decode(%q) = %q, %q", written, Decode(written, false), Decode(written, true))
			}
		}
	}
}

// P0: great texts come to an end, too.
func TestGreat(t *testing.T) {
	cases := []struct{ piece, want string }{
		{"&", "&"}, {"&amp", "&"}, {"&amp;", "&"}, {"&aaaaaaa", "&aaaaaaa"}, {"&#", "&#"}, {"&#x", "&#x"}, {"&#0", bad}, {"a", "a"}, {"&\xff", "&\xff"}, {"&NewLin", "&NewLin"},
	}
	for _, c := range cases {
		k := 1 << 24 / len(c.piece)
		if Decode(strings.Repeat(c.piece, k), false) != strings.Repeat(c.want, k) {
			t.Errorf("a great text of %q: not so", c.piece)
		}
	}
	if Decode("&#"+strings.Repeat("9", 1<<24)+";x", true) != bad+"x" {
		t.Error("a great number: not so")
	}
	if got, ok := Named(strings.Repeat("a", 1<<24)); got != "" || ok {
		t.Error("a great name: not so")
	}
}
