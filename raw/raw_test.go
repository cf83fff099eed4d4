package raw

import (
	"regexp"
	"strings"
	"testing"

	"hoarding/api"
	"hoarding/tag"
)

const (
	spaces  = "\t\n\f\r "
	letters = "abcdefghijklmnopqrstuvwxyz"
)

// states are the States, and numbers that are none.
var states = []int{api.Data, api.Rcdata, api.Rawtext, api.Script, api.Plaintext, 5, -1, 1 << 40}

// low is s with a to z for A to Z.
func low(s string) string {
	b := []byte(s)
	for i, c := range b {
		if at := strings.IndexByte(strings.ToUpper(letters), c); at >= 0 {
			b[i] = letters[at]
		}
	}
	return string(b)
}

// modelText is the first one of the places at which end tags of that name begin in s, looked for by each byte that may stand behind the name.
func modelText(s, name string) int {
	first := len(s)
	for _, end := range strings.Split(spaces+"/>", "") {
		if at := strings.Index(low(s), "</"+low(name)+end); at >= 0 && name != "" {
			first = min(first, at)
		}
	}
	return first
}

// The states of a script, as the standard of HTML goes through it, byte by byte.
const (
	plain       = iota // none of <!-- yet
	less               // behind <
	lessBang           // behind <!
	lessDash           // behind <!-
	endName            // behind </, in a name
	hidden             // behind <!--
	hiddenDash         // behind -
	hiddenTwo          // behind --
	hiddenLess         // behind <
	hiddenEnd          // behind </, in a name
	hiddenBegin        // behind < and a letter
	deep               // behind <script
	deepDash           // behind -
	deepTwo            // behind --
	deepLess           // behind <
	deepEnd            // behind </, in a name
)

// standard is what the standard keeps of a script: its state, the last < and the name behind it.
type standard struct {
	state int
	from  int
	name  string
}

// meet goes on by the byte c at that place, and tells whether an end tag of a script begins at from.
func (m *standard) meet(at int, c byte) bool {
	small := strings.ToLower(string(rune(c)))
	letter := c < 128 && strings.Contains(letters, small)
	ends := strings.IndexByte(spaces+"/>", c) >= 0
	if letter && (m.state == endName || m.state == hiddenEnd || m.state == hiddenBegin || m.state == deepEnd) {
		m.name += small
		return false
	}
	switch m.state {
	case plain, hidden, hiddenDash, hiddenTwo, deep, deepDash, deepTwo:
		m.meetText(at, c)
	case less, hiddenLess, deepLess:
		m.meetLess(at, c, small, letter)
	case lessBang, lessDash:
		m.back(at, c, c == '-', map[int]int{lessBang: lessDash, lessDash: hiddenTwo}[m.state])
	case endName, hiddenEnd:
		if ends && m.name == "script" {
			return true
		}
		m.back(at, c, false, 0)
	case hiddenBegin, deepEnd:
		to := map[bool]int{true: deep, false: hidden}[(m.state == hiddenBegin) == (m.name == "script")]
		m.back(at, c, ends, to)
	}
	return false
}

// back goes on to the state to, where that is so; else c is met as text.
func (m *standard) back(at int, c byte, is bool, to int) {
	if is {
		m.state = to
		return
	}
	m.state = map[int]int{less: plain, lessBang: plain, lessDash: plain, endName: plain, hiddenLess: hidden, hiddenEnd: hidden, hiddenBegin: hidden, deepLess: deep, deepEnd: deep}[m.state]
	m.meetText(at, c)
}

// meetText is meet where no tag has begun.
func (m *standard) meetText(at int, c byte) {
	first := map[bool]int{true: hidden, false: deep}[m.state < deep]
	switch {
	case m.state == plain && c != '<':
	case m.state == plain:
		m.state, m.from = less, at
	case c == '<':
		m.state, m.from = first+hiddenLess-hidden, at
	case c == '-':
		m.state = min(m.state+1, first+2)
	case c == '>' && m.state == first+2:
		m.state = plain
	default:
		m.state = first
	}
}

// meetLess is meet behind <.
func (m *standard) meetLess(at int, c byte, small string, letter bool) {
	switch {
	case c == '/':
		m.state, m.name = map[int]int{less: endName, hiddenLess: hiddenEnd, deepLess: deepEnd}[m.state], ""
	case c == '!' && m.state == less:
		m.state = lessBang
	case letter && m.state == hiddenLess:
		m.state, m.name = hiddenBegin, small
	default:
		m.back(at, c, false, 0)
	}
}

// standardScript is Find of a script, as the standard tells it.
func standardScript(s string) int {
	m := &standard{}
	for at := range len(s) {
		if m.meet(at, s[at]) {
			return m.from
		}
	}
	return len(s)
}

// sign is what counts in a script.
var sign = regexp.MustCompile("^(<!--|-->|</?[sS][cC][rR][iI][pP][tT][\\t\\n\\f\\r />])")

// modelScript is Find of a script by the chapter's words: what counts at a place is found by a pattern.
func modelScript(s, name string) int {
	state := "open"
	for at := 0; at < len(s); {
		if state != "deep" && modelText(s[at:min(len(s), at+len(name)+3)], name) == 0 {
			return at
		}
		found, by := low(sign.FindString(s[at:])), 1
		switch {
		case state == "open" && found == "<!--":
			state, by = "hidden", 2
		case state == "hidden" && strings.HasPrefix(found, "<s"):
			state = "deep"
		case state == "deep" && strings.HasPrefix(found, "</"):
			state = "hidden"
		case found == "-->":
			state = "open"
		}
		at += by
	}
	return len(s)
}

// model is Find by the models.
func model(s, name string, state int) int {
	switch state {
	case api.Data:
		return 0
	case api.Rcdata, api.Rawtext:
		return modelText(s, name)
	case api.Script:
		return modelScript(s, name)
	}
	return len(s)
}

// look holds Find of s in each State against the models, and against what follows (P10.3).
func look(t *testing.T, s, name string) {
	t.Helper()
	for _, state := range states {
		n := Find(s, name, state)
		if want := model(s, name, state); n != want {
			t.Fatalf("Find(%q, %q, %d) = %d, not %d", s, name, state, n, want)
		}
		if state != api.Data && n != len(s) && !tag.Closes(s[n:], name) {
			t.Fatalf("Find(%q, %q, %d) = %d, but no end tag stands there", s, name, state, n)
		}
	}
	if strings.EqualFold(name, "script") && Find(s, name, api.Script) != standardScript(s) {
		t.Fatalf("Find(%q, %q, Script) = %d, but the standard tells %d", s, name, Find(s, name, api.Script), standardScript(s))
	}
}

// P10.1: in Rcdata and Rawtext, up to the first end tag of the name; so is a script without <!--.
func TestText(t *testing.T) {
	cases := []struct {
		s, name string
		n       int // -1: all
	}{
		{"a</b</p>", "p", 4}, {"a</title>b", "title", 1}, {"</style>", "style", 0}, {"", "style", -1}, {"a", "style", -1}, {"a<b>&amp;</style>", "style", 9},
		{"a</TITLE>", "title", 1}, {"a</tItLe>", "TiTlE", 1}, {"a</title>", "TITLE", 1}, {"a</TEXTAREA\n>", "textarea", 1},
		{"a</title >", "title", 1}, {"a</title\t>", "title", 1}, {"a</title\n", "title", 1}, {"a</title\f", "title", 1}, {"a</title\r", "title", 1}, {"a</title ", "title", 1}, {"a</title/>", "title", 1}, {"a</title/", "title", 1}, {"a</title a='>", "title", 1},
		{"a</title", "title", -1}, {"a</titl", "title", -1}, {"a</", "title", -1}, {"a<", "title", -1}, {"a</titles>", "title", -1}, {"a</title1>", "title", -1}, {"a</title->", "title", -1}, {"a</title\v>", "title", -1}, {"a</title\x00>", "title", -1}, {"a</title\u00a0>", "title", -1}, {"a</title<>", "title", -1}, {"a</title=>", "title", -1}, {"a</title-->", "title", -1},
		{"a</style>b", "title", -1}, {"a<title>b", "title", -1}, {"a< /title>", "title", -1}, {"a</ title>", "title", -1}, {"a<//title>", "title", -1}, {"a/title>", "title", -1}, {"a&lt;/title>", "title", -1}, {"a</t\u0131tle>", "title", -1}, {"</\u017ftyle>", "style", -1},
		{"a</titles></title>", "title", 10}, {"a</title</title>", "title", 8}, {"</</title>", "title", 2}, {"<</title>", "title", 1}, {"a</style></title></title>", "title", 9}, {"a</title></title>", "title", 1}, {"</title1></title", "title", -1}, {"a<!b</title>-->", "title", 4}, {"\x00\xff</xmp>", "xmp", 2}, {"é</xmp>", "xmp", 2},
		{"a</>", "", -1}, {"</ ", "", -1}, {"<//", "", -1}, {"</p>", "", -1}, {"", "", -1}, {"a</h1>", "h1", 1}, {"a</h1>", "h", -1}, {"a</a b>", "a b", 1}, {"a</1>", "1", 1}, {"</<>", "<", 0}, {"<// ", "/", 0}, {"</>>", ">", 0}, {"</é>", "é", 0}, {"</É>", "é", -1}, {"</\xff>", "\xff", 0}, {"</[>", "{", -1}, {"</K>", "\u212a", -1},
	}
	for _, c := range cases {
		if c.n < 0 {
			c.n = len(c.s)
		}
		for _, state := range []int{api.Rcdata, api.Rawtext, api.Script} {
			if n := Find(c.s, c.name, state); n != c.n {
				t.Errorf("Find(%q, %q, %d) = %d, not %d", c.s, c.name, state, n, c.n)
			}
		}
		look(t, c.s, c.name)
	}
}

// P10.1: nothing of Data, all of Plaintext and of numbers that are no State; Rcdata and Rawtext know of no <!--.
func TestStates(t *testing.T) {
	s := "a<!--<script></script></SCRIPT >--></script>b"
	want := map[int]int{api.Data: 0, api.Rcdata: 13, api.Rawtext: 13, api.Script: 22, api.Plaintext: len(s), 5: len(s), -1: len(s), 1 << 40: len(s), -1 << 60: len(s)}
	for state, n := range want {
		if got := Find(s, "script", state); got != n {
			t.Errorf("Find of the state %d = %d, not %d", state, got, n)
		}
		for _, name := range []string{"", "style", "plaintext", "script"} {
			for _, empty := range []string{"", "a", "</plaintext>"} {
				if got := Find(empty, name, state); got != model(empty, name, state) {
					t.Errorf("Find(%q, %q, %d) = %d", empty, name, state, got)
				}
			}
		}
	}
}

// P10.2: scripts, open, hidden and deep.
func TestScript(t *testing.T) {
	cases := []struct {
		s string
		n int // -1: all
	}{
		{"a</script>b", 1}, {"</script>", 0}, {"", -1}, {"a<script>b</script>", 10}, {"<script></script></script>", 8}, {"a-->b</script>", 5}, {"a</SCRIPT\n>", 1}, {"a</scripts></script>", 11}, {"a</style></script>", 9}, {"a</script", -1},
		{"<!--a</script>", 5}, {"<!--a</script>-->", 5}, {"<!--a--></script>", 8}, {"<!--<script></script>--></script>", 24}, {"<!--<script></script></script>", 21}, {"<!--<script>a</script>b</script>-->", 23}, {"<!--<script>--></script>", 15}, {"<!--<script>a--></script></script>", 16}, {"<!--<script></script>", -1}, {"<!--<script></script>a", -1}, {"<!--<script>", -1}, {"<!--", -1},
		{"<!--<script ></script>", -1}, {"<!--<script\t></script>", -1}, {"<!--<script\n></script>", -1}, {"<!--<script\f></script>", -1}, {"<!--<script\r></script>", -1}, {"<!--<script/></script>", -1}, {"<!--<script/</script>", -1}, {"<!--<script </script>", -1}, {"<!--<script></script>", -1},
		{"<!--<script</script>", 11}, {"<!--<scripts></script>", 13}, {"<!--<script1></script>", 13}, {"<!--<script-></script>", 13}, {"<!--<script=></script>", 13}, {"<!--<script\v></script>", 13}, {"<!--<script\x00></script>", 13}, {"<!--<script\u00a0></script>", 14}, {"<!--<scrip></script>", 11}, {"<!--< script></script>", 13}, {"<!--script></script>", 11}, {"<!--<style></script>", 11}, {"<!--<script--></script>", 14}, {"<!--<\u017fcript></script>", 13},
		{"<!--<SCRIPT></script>", -1}, {"<!--<ScRiPt></sCrIpT></SCRIPT>", 21}, {"<!--<sCRIPT/></SCRIPT/></Script/>", 23},
		{"<!--<script></script a></script>", 23}, {"<!--<script></script/></script>", 22}, {"<!--<script></script\n</script>", 21}, {"<!--<script></script</script></script>", 29}, {"<!--<script></scripts></script></script>", 31}, {"<!--<script></style></script></script>", 29}, {"<!--<script></ script></script></script>", 31},
		{"<!--<script><script></script></script>", 29}, {"<!--<script></script><script></script></script>", 38}, {"<!--<script></script><script></script>", -1}, {"<!--<script></script><script>--></script>", 32}, {"<!--<script><!--</script></script>", 25}, {"<!--<script></script><!--</script>", 25}, {"<!--<script><!--></script>", 17}, {"<!--<script>-></script></script>", 23}, {"<!--<script>--!></script></script>", 25}, {"<!--<script>--->a</script>", 17},
		{"<!--></script>", 5}, {"<!--><script></script>", 13}, {"<!---></script>", 6}, {"<!---><script></script>", 14}, {"<!----><script></script>", 15}, {"<!--><!--<script></script></script>", 26}, {"<!-- ><script></script>", -1}, {"<!-- -><script></script>", -1}, {"<!----!><script></script>", -1}, {"<!---- ><script></script>", -1}, {"<!-<script></script>", 11}, {"<!- -<script></script>", 13}, {"<! --<script></script>", 13}, {"<--<script></script>", 11}, {"!--<script></script>", 11}, {"<<!--<script></script>", -1},
		{"--><!--<script></script>", -1}, {"--><!--<script></script></script>", 24}, {"<!--a--><!--<script></script></script>", 29}, {"<!--a-->b--><script></script>", 20}, {"<!--<!--a--><script></script>", 20}, {"<!--<!--<script></script>", -1}, {"<!--<!--><script></script>", 17}, {"<!--<script>--><!--<script></script></script>", 36}, {"<!--a--><script></script>", 16}, {"<!--<script>-->a<script></script></script>", 24},
		{"<!--é<script>\xff\x00</script>\n</script>", 26}, {"<!--</script", -1}, {"<!--</script ", 4}, {"<!--</script/", 4}, {"<!--</scripts></script>", 14},
	}
	for _, c := range cases {
		if c.n < 0 {
			c.n = len(c.s)
		}
		if n := Find(c.s, "script", api.Script); n != c.n {
			t.Errorf("Find(%q, Script) = %d, not %d", c.s, n, c.n)
		}
		look(t, c.s, "script")
		look(t, c.s, "SCRIPT")
	}
}

// P10.2: a script's end tag is of the name that is asked for; what makes it deep, and hidden again, is script.
func TestOtherName(t *testing.T) {
	cases := []struct {
		s, name string
		n       int
	}{
		{"a</script></p>", "p", 10}, {"<!--<script></p></script></p>", "p", 25}, {"<!--<script></p>--></p>", "p", 19}, {"<!--<script></script></p>", "p", 21}, {"<!--<p></p>", "p", 7}, {"<!--</p>", "p", 4}, {"<!--<script></script></script>", "p", 30}, {"a</P >", "p", 1},
		{"a</script>", "", 10}, {"<!--<script></script></>", "", 24}, {"a</>", "", 4}, {"</!-->", "!--", 0}, {"<!--</--></-->", "--", 4}, {"<!--<script></--></-->", "--", 17}, {"</<!--</script>", "<!--", 15}, {"</<!-->", "<!--", 0},
	}
	for _, c := range cases {
		if n := Find(c.s, c.name, api.Script); n != c.n {
			t.Errorf("Find(%q, %q, Script) = %d, not %d", c.s, c.name, n, c.n)
		}
		look(t, c.s, c.name)
	}
}

// P10.1, P10.2: each cut at each byte.
func TestCut(t *testing.T) {
	for _, s := range []string{
		"a</b</p></p >", "a<b>&amp;</TitlE\n>b</title>", "</textarea/></textarea>", "a</styles></style", "</scripts></SCRIPT >",
		"a<!--b<script>c</script >d</script>e-->f</script>g", "<!--><script></script>", "<!--->-<!--<script/--><!--</script>", "<!--<SCRIPT\n>a</scripts></script/></script>", "<!--<script></script><script>--></script>", "<!--<script><!--</script>--><script></script>", "--><!--<!---->--></script></script>",
	} {
		for n := range len(s) + 1 {
			for _, name := range []string{"p", "title", "textarea", "style", "script", "scripts", ""} {
				look(t, s[:n], name)
			}
		}
	}
}

// P10.1, P10.2, P10.3: all texts of up to five pieces, also behind <!-- and <script>, held against the models.
func TestModel(t *testing.T) {
	pieces := []string{"<!--", "-->", "<script", "</script", "</SCRIPT>", ">", "/", " ", "-", "<", "a"}
	level := []string{""}
	for depth := range 5 {
		var next []string
		for _, s := range level {
			for _, p := range pieces {
				next = append(next, s+p)
			}
		}
		level = next
		for _, s := range level {
			if depth < 3 {
				look(t, s, "script")
				look(t, s, "a")
				look(t, "<!--"+s, "script")
				look(t, "<!--<script>"+s, "script")
				continue
			}
			for _, begin := range []string{"", "<!--", "<!--<script>"} {
				if n, want := Find(begin+s, "script", api.Script), standardScript(begin+s); n != want {
					t.Fatalf("Find(%q, Script) = %d, but the standard tells %d", begin+s, n, want)
				}
			}
		}
	}
}

// P10.1, P10.2: every byte at every place.
func TestEachByte(t *testing.T) {
	for c := range 256 {
		b := string([]byte{byte(c)})
		for _, s := range []string{
			"%/script>", "<%script>", "</%cript>", "</scrip%>", "</script%", "</script%>", "%</script>", "a</script>%", "<%/script>", "</%script>",
			"%!--<script></script>", "<%--<script></script>", "<!%-<script></script>", "<!-%<script></script>", "<!--%<script></script>", "<!--%script></script>", "<!--<%cript></script>", "<!--<scrip%></script>", "<!--<script%</script>", "<!--<script>%</script></script>", "<!--<script>%/script></script>", "<!--<script><%script></script>", "<!--<script></script%</script>",
			"<!--<script>%-></script></script>", "<!--<script>-%></script></script>", "<!--<script>--%</script></script>", "<!--%-><script></script>", "<!--a-%><script></script>", "<!--a--%<script></script>", "<!--%><script></script>",
		} {
			look(t, strings.ReplaceAll(s, "%", b), "script")
			look(t, strings.ReplaceAll(s, "%", b+b), "script")
		}
		look(t, "a</"+b+"></p>", b)
	}
}

// P0: great texts end soon, of great names, too.
func TestGreat(t *testing.T) {
	long := 1<<24 - 40
	for _, piece := range []string{"a", "<", "</", "-", "<!--", "-->", "<script>", "</script", "</scripts>", "<!--<script>-->", "</b>", "\x00"} {
		text := strings.Repeat(piece, long/len(piece))
		for _, state := range states {
			want := len(text)
			if state == api.Data {
				want = 0
			}
			if n := Find(text, "script", state); n != want {
				t.Errorf("Find of many %q in the state %d = %d of %d", piece, state, n, len(text))
			}
		}
		if n := Find(text+"></title>", "title", api.Rcdata); n != len(text)+1 {
			t.Errorf("Find of many %q and an end tag = %d of %d", piece, n, len(text))
		}
		if n := Find(text+"--></script>", "script", api.Script); n != len(text)+3 {
			t.Errorf("Find of a script of many %q and an end tag = %d of %d", piece, n, len(text))
		}
	}
	name := strings.Repeat("a", long/2)
	for _, state := range []int{api.Rcdata, api.Rawtext, api.Script} {
		if n := Find("</a></"+strings.ToUpper(name)+">", name, state); n != 4 {
			t.Errorf("a great name in the state %d is found at %d", state, n)
		}
	}
}
