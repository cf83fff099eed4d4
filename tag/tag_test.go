package tag

import (
	"reflect"
	"slices"
	"strconv"
	"strings"
	"testing"

	"hoarding/api"
	"hoarding/ascii"
	"hoarding/attr"
	"hoarding/charref"
)

const spaces = "\t\n\f\r "

// written is a token as it is told in the tables: its kind, its name, attributes in brackets, / of Self.
func written(t api.Token) string {
	if t.Kind == api.End {
		return ""
	}
	out := map[int]string{api.Start: "<", api.Close: "</"}[t.Kind] + t.Name
	for _, a := range t.Attrs {
		out += "[" + a.Name + "|" + a.Value + "]"
	}
	if t.Self {
		out += "/"
	}
	return out + t.Data
}

// Where a byte of a tag is met in the model.
const (
	inName = iota
	beforeAttr
	behindSlash
	inAttr
	behindAttr
	beforeValue
	inValue
	inOne // '
	inTwo // "
)

// model is a tag as it is read byte by byte, by the chapter's words.
type model struct {
	token       api.Token
	state       int
	name, value []byte
}

// keep has the attribute that ended, if its name is not there.
func (m *model) keep() {
	a := api.Attr{Name: ascii.Lower(string(m.name)), Value: charref.Decode(string(m.value), true)}
	if !slices.ContainsFunc(m.token.Attrs, func(b api.Attr) bool { return a.Name == b.Name }) {
		m.token.Attrs = append(m.token.Attrs, a)
	}
	m.name, m.value = nil, nil
}

// meet goes on by one byte, and tells whether that ends the tag.
func (m *model) meet(c byte) bool {
	space := strings.IndexByte(spaces, c) >= 0
	switch m.state {
	case inName:
		if space {
			m.state = beforeAttr
		} else if c == '/' {
			m.state = behindSlash
		} else if c == '>' {
			return true
		} else {
			m.token.Name += string([]byte{c})
		}
	case behindSlash:
		if c == '>' {
			m.token.Self = true
			return true
		}
		m.state = beforeAttr
		return m.meet(c)
	case beforeAttr:
		if c == '/' {
			m.state = behindSlash
		} else if c == '>' {
			return true
		} else if !space {
			m.name, m.state = []byte{c}, inAttr
		}
	case inAttr:
		if space || c == '/' || c == '>' || c == '=' {
			m.state = behindAttr
			return m.meet(c)
		}
		m.name = append(m.name, c)
	case behindAttr:
		if c == '=' {
			m.state = beforeValue
		} else if !space {
			m.keep()
			m.state = beforeAttr
			return m.meet(c)
		}
	default:
		return m.meetValue(c, space)
	}
	return false
}

// meetValue is meet in a value, and ahead of it.
func (m *model) meetValue(c byte, space bool) bool {
	quotes := map[byte]int{'\'': inOne, '"': inTwo}
	switch {
	case m.state == beforeValue && space:
	case m.state == beforeValue && quotes[c] != 0:
		m.state = quotes[c]
	case m.state == beforeValue:
		m.state = inValue
		return m.meetValue(c, space)
	case m.state == inValue && (space || c == '>'), m.state != inValue && quotes[c] == m.state:
		m.keep()
		m.state = beforeAttr
		return c == '>'
	default:
		m.value = append(m.value, c)
	}
	return false
}

// modelRead is Read by the model.
func modelRead(s string) (api.Token, int, bool) {
	m := &model{token: api.Token{Kind: api.Start}}
	at := 1
	if strings.HasPrefix(s, "</") {
		m.token.Kind, at = api.Close, 2
	}
	if len(s) <= at || s[0] != '<' || !ascii.Letter(s[at]) {
		return api.Token{}, 0, false
	}
	for ; at < len(s); at++ {
		if !m.meet(s[at]) {
			continue
		}
		m.token.Name = ascii.Lower(m.token.Name)
		if m.token.Kind == api.Close {
			m.token.Attrs, m.token.Self = nil, false
		}
		return m.token, at + 1, true
	}
	return api.Token{}, len(s), false
}

// look holds Read of s against the model, and against what follows (P8.3).
func look(t *testing.T, s string) {
	t.Helper()
	got, n, is := Read(s)
	want, m, was := modelRead(s)
	if written(got) != written(want) || n != m || is != was {
		t.Fatalf("Read(%q) = %q, %d, %v, not %q, %d, %v", s, written(got), n, is, written(want), m, was)
	}
	if !is {
		if !reflect.DeepEqual(got, api.Token{}) {
			t.Fatalf("Read(%q) = %+v beside false", s, got)
		}
		return
	}
	var there []api.Attr
	for _, a := range got.Attrs {
		if _, twice := attr.Get(there, a.Name); twice || ascii.Lower(a.Name) != a.Name {
			t.Fatalf("Read(%q) = %q", s, written(got))
		}
		there = attr.Add(there, a)
	}
	if got.Kind == api.Close && (len(got.Attrs) > 0 || got.Self) || got.Data != "" || ascii.Lower(got.Name) != got.Name {
		t.Fatalf("Read(%q) = %+v", s, got)
	}
}

// P8.1, P8.2: ordinary tags, and each edge that the chapter names; what stands behind them is not taken.
func TestRead(t *testing.T) {
	cases := []struct {
		s, want string
		n       int // 0: all of s
	}{
		{"<a>", "<a", 0}, {"<a>b", "<a", 3}, {"<A>", "<a", 0}, {"<Z>", "<z", 0}, {"<z1>", "<z1", 0}, {"</a>", "</a", 0}, {"</A >b", "</a", 5}, {"<DiV>", "<div", 0}, {"<foreignObject>", "<foreignobject", 0},
		{"<A HREF=x/y b>", "<a[href|x/y][b|]", 0}, {"<a href=x id=\"y\" title='z'>", "<a[href|x][id|y][title|z]", 0},
		{"<a\tb>", "<a[b|]", 0}, {"<a\nb>", "<a[b|]", 0}, {"<a\fb>", "<a[b|]", 0}, {"<a\rb>", "<a[b|]", 0}, {"<a b>", "<a[b|]", 0}, {"<a\vb>", "<a\vb", 0}, {"<a\u00a0b>", "<a\u00a0b", 0}, {"<a\x00b>", "<a\x00b", 0},
		{"<a \t\n\f\r >", "<a", 0}, {"<a >", "<a", 0}, {"<a b >", "<a[b|]", 0}, {"<a  b  c  >", "<a[b|][c|]", 0},
		{"<a/>", "<a/", 0}, {"<a />", "<a/", 0}, {"<a/ >", "<a", 0}, {"<a//>", "<a/", 0}, {"<a / />", "<a/", 0}, {"<a / / >", "<a", 0}, {"<a/b>", "<a[b|]", 0}, {"<a/b/>", "<a[b|]/", 0}, {"<a b/>", "<a[b|]/", 0}, {"<a b />", "<a[b|]/", 0}, {"<a b/ >", "<a[b|]", 0}, {"<a/b/c>", "<a[b|][c|]", 0}, {"<a b/c=d>", "<a[b|][c|d]", 0},
		{"<a b=c/>", "<a[b|c/]", 0}, {"<a b=c />", "<a[b|c]/", 0}, {"<a b=/>", "<a[b|/]", 0}, {"<a b= />", "<a[b|/]", 0}, {"<a b=//c>", "<a[b|//c]", 0}, {"<a b=\"c\"/>", "<a[b|c]/", 0}, {"<a b='c'/ >", "<a[b|c]", 0}, {"<a b /=c>", "<a[b|][=c|]", 0}, {"<a b/=c>", "<a[b|][=c|]", 0},
		{"<a b=>", "<a[b|]", 0}, {"<a b= >", "<a[b|]", 0}, {"<a b =>", "<a[b|]", 0}, {"<a b = >", "<a[b|]", 0}, {"<a b\n=\tc>", "<a[b|c]", 0}, {"<a b = \"c\">", "<a[b|c]", 0}, {"<a b= c>", "<a[b|c]", 0}, {"<a b =c>", "<a[b|c]", 0}, {"<a b=\fc\rd>", "<a[b|c][d|]", 0},
		{"<a =>", "<a[=|]", 0}, {"<a =b>", "<a[=b|]", 0}, {"<a =b=c>", "<a[=b|c]", 0}, {"<a ==>", "<a[=|]", 0}, {"<a ==b>", "<a[=|b]", 0}, {"<a ===>", "<a[=|=]", 0}, {"<a b==c>", "<a[b|=c]", 0}, {"<a b = = c>", "<a[b|=][c|]", 0}, {"<a/=>", "<a[=|]", 0}, {"<a=b>", "<a=b", 0}, {"<a= b>", "<a=[b|]", 0},
		{"<a b=\"\">", "<a[b|]", 0}, {"<a b=''>", "<a[b|]", 0}, {"<a b=\"'\">", "<a[b|']", 0}, {"<a b='\"'>", "<a[b|\"]", 0}, {"<a b=\">\">", "<a[b|>]", 0}, {"<a b='>'>", "<a[b|>]", 0}, {"<a b=\" c d \">", "<a[b| c d ]", 0}, {"<a b=\"/\">", "<a[b|/]", 0}, {"<a b='a=b'>", "<a[b|a=b]", 0}, {"<a b=\"\n\">", "<a[b|\n]", 0},
		{"<a b=\"c\"d>", "<a[b|c][d|]", 0}, {"<a b='c'd='e'>", "<a[b|c][d|e]", 0}, {"<a b=\"c\"\"d\">", "<a[b|c][\"d\"|]", 0}, {"<a b=\"c\"=d>", "<a[b|c][=d|]", 0}, {"<a b=\"c\" =d>", "<a[b|c][=d|]", 0}, {"<a b=c\"d>", "<a[b|c\"d]", 0}, {"<a b=c'd'>", "<a[b|c'd']", 0}, {"<a b=c=d>", "<a[b|c=d]", 0}, {"<a b=<c>", "<a[b|<c]", 0}, {"<a b=`c d`>", "<a[b|`c][d`|]", 0},
		{"<a \">", "<a[\"|]", 0}, {"<a '>", "<a['|]", 0}, {"<a \"b\">", "<a[\"b\"|]", 0}, {"<a b\"c=d>", "<a[b\"c|d]", 0}, {"<a <b>", "<a[<b|]", 0}, {"<a<b>", "<a<b", 0}, {"<a\"b>", "<a\"b", 0}, {"<a <>", "<a[<|]", 0}, {"<a &amp;>", "<a[&amp;|]", 0}, {"<a&amp;>", "<a&amp;", 0},
		{"<a b=\"&amp;\">", "<a[b|&]", 0}, {"<a b='&amp;amp;'>", "<a[b|&amp;]", 0}, {"<a b=&lt;>", "<a[b|<]", 0}, {"<a b=&gt>", "<a[b|>]", 0}, {"<a b=&quot;c&quot;>", "<a[b|\"c\"]", 0}, {"<a b=\"&quot;\">", "<a[b|\"]", 0}, {"<a b=x&copy=1>", "<a[b|x&copy=1]", 0}, {"<a b=\"&ampx\">", "<a[b|&ampx]", 0}, {"<a b=&Tab;c>", "<a[b|\tc]", 0}, {"<a b=&#32;c>", "<a[b| c]", 0}, {"<a b=&#62;c>", "<a[b|>c]", 0}, {"<a b=\"&am\"p;>", "<a[b|&am][p;|]", 0}, {"<a b=&#0>", "<a[b|\uFFFD]", 0},
		{"<a b=1 b=2>", "<a[b|1]", 0}, {"<a b=1 B=2>", "<a[b|1]", 0}, {"<a B=1 b=2 c>", "<a[b|1][c|]", 0}, {"<a b b=2>", "<a[b|]", 0}, {"<a b= b=2>", "<a[b|b=2]", 0}, {"<a c b=1 C=2 B=3 d>", "<a[c|][b|1][d|]", 0}, {"<a b=\"1\"b='2'>", "<a[b|1]", 0}, {"<a = =>", "<a[=|]", 0}, {"<a = b =>", "<a[=|][b|]", 0},
		{"<a ONCLICK=X>", "<a[onclick|X]", 0}, {"<a ÄB=Ä>", "<a[Äb|Ä]", 0}, {"<aÄB>", "<aÄb", 0}, {"<a \xff=\xfe>", "<a[\xff|\xfe]", 0}, {"<a\u212a \u212a>", "<a\u212a[\u212a|]", 0}, {"<a xlink:HREF=#x>", "<a[xlink:href|#x]", 0}, {"<a \x00=\x00>", "<a[\x00|\x00]", 0},
		{"</a b>", "</a", 0}, {"</a b=c d=\">\">", "</a", 0}, {"</a/>", "</a", 0}, {"</a />", "</a", 0}, {"</a b=1 b=2/>", "</a", 0}, {"</a b='>'>c", "</a", 10}, {"</DIV\n>", "</div", 0}, {"</a<b>", "</a<b", 0}, {"</a/b>c>", "</a", 6}, {"</br/>", "</br", 0},
		{"<a><b>", "<a", 3}, {"<a>>", "<a", 3}, {"<a b>c>", "<a[b|]", 5}, {"<a b=c>\">", "<a[b|c]", 7}, {"<a/>/>", "<a/", 4}, {"<a>\x00", "<a", 3}, {"<img src=x onerror=alert(1)>", "<img[src|x][onerror|alert(1)]", 0},
	}
	for _, c := range cases {
		token, n, is := Read(c.s)
		if c.n == 0 {
			c.n = len(c.s)
		}
		if written(token) != c.want || n != c.n || !is {
			t.Errorf("Read(%q) = %q, %d, %v", c.s, written(token), n, is)
		}
		look(t, c.s)
	}
}

// P8.2: texts that begin as no tag: nothing is taken.
func TestNoTag(t *testing.T) {
	for _, s := range []string{
		"", "<", "</", "a", "a>", " <a>", "\n<a>", "><a>", "/a>", "&lt;a>", "< a>", "<1>", "<>", "</>", "</ a>", "</1>", "<//a>", "</", "</<a>", "<<a>", "<!a>", "<!--a-->", "<?a>", "<!doctype html>", "</!a>", "</?a>",
		"<=>", "<\"a\">", "<\x00a>", "<é>", "</é>", "<\xff>", "<@>", "<[>", "<`>", "<{>", "</@>", "</[>", "</`>", "</{>", "<-a>", "<_a>", "<:a>", "<\ufeffa>", "\ufeff<a>", "\x00<a>", "<ａ>", "＜a>", "\\<a>", "\x3ca"[1:],
	} {
		if token, n, is := Read(s); !reflect.DeepEqual(token, api.Token{}) || n != 0 || is {
			t.Errorf("Read(%q) = %+v, %d, %v", s, token, n, is)
		}
	}
	for c := range 256 {
		for _, ahead := range []string{"<", "</"} {
			s := ahead + string([]byte{byte(c)}) + " b>"
			letter := 'a' <= c && c <= 'z' || 'A' <= c && c <= 'Z'
			if _, n, is := Read(s); is != letter || is && n != len(s) || !is && n != 0 && c != '/' {
				t.Errorf("Read(%q) = %d, %v", s, n, is)
			}
		}
	}
}

// P8.2: tags that end ahead of their end, cut at each byte: nothing, and all bytes; but none, where no letter is there yet.
func TestCut(t *testing.T) {
	for _, s := range []string{
		"<a>", "</a>", "<abc/>", "<a b>", "<a b=c>", "<a b = \"c>d\" e='f>g' h />", "</a b='>' />", "<img\tsrc=&lt;x&gt; alt= \"\">", "<a b=\"1\"b='2'/ / c = d/>", "<a ==\"=\">", "</a =='>'>", "<p title=\"</p>\">", "<a é='ü'>",
	} {
		for n := range len(s) {
			token, took, is := Read(s[:n])
			letters := n - strings.IndexFunc(s, func(r rune) bool { return r >= 'A' })
			if want := n; letters <= 0 && took != 0 || letters > 0 && took != want || is || !reflect.DeepEqual(token, api.Token{}) {
				t.Errorf("Read(%q) = %+v, %d, %v", s[:n], token, took, is)
			}
			look(t, s[:n])
		}
		if _, n, is := Read(s); n != len(s) || !is {
			t.Errorf("Read(%q) takes %d, %v", s, n, is)
		}
	}
	for _, s := range []string{"<a b=\"c>", "<a b='c>", "<a b=\"c'>", "<a b='c\">", "<a b=\"", "<a b='", "<a b=\"c\"d='>", "<a \"b=\"c>d>e'>", "</a b=\">", "<a b=c d=\"e></a>", "<a b='&#39;>", "<a b=\"&quot;>"} {
		if _, n, is := Read(s); n != len(s) || is {
			t.Errorf("Read(%q), whose quote is not ended, takes %d, %v", s, n, is)
		}
	}
}

// P8.1, P8.2, P8.3: all texts of up to six pieces behind < and a letter, and behind </ and one, held against the model.
func TestModel(t *testing.T) {
	pieces := []string{"b", "B", " ", "\n", "/", ">", "=", "\"", "'", "&lt"}
	level := []string{""}
	for range 5 {
		var next []string
		for _, s := range level {
			for _, p := range pieces {
				look(t, "<a"+s+p)
				look(t, "<a "+s+p+">")
				next = append(next, s+p)
			}
		}
		level = next
	}
	for _, s := range level[:10000] {
		look(t, "</a"+s)
		look(t, s+"<a>")
	}
}

// P8.1: every byte at every place of a tag.
func TestEachByte(t *testing.T) {
	for c := range 256 {
		one := string([]byte{byte(c)})
		for _, s := range []string{"<a%>", "<a% b>", "<a %>", "<a %b>", "<a b%>", "<a b%c>", "<a b %>", "<a b=%>", "<a b=%c>", "<a b=c%>", "<a b=c%d>", "<a b=\"%\">", "<a b='%'>", "<a b=\"c\"%>", "<a b='c'%d>", "<a b=%\"c\">", "<a/%>", "<a b = %c>", "<a b%=c>", "<a b%= c>", "<a>%", "</a%>", "</a %b>", "</a b=%>", "<a b=&%;>", "<%", "</%", "%a>", "<a%"} {
			look(t, strings.ReplaceAll(s, "%", one))
			look(t, strings.ReplaceAll(s, "%", one+one))
		}
	}
}

// P8.3: what stands behind a tag plays no part in it: every pair of bytes, and longer texts.
func TestBehind(t *testing.T) {
	for _, s := range []string{"<a>", "<a/>", "<a b=\"c\">", "<a b=c>", "<a b='>'/>", "</a b>"} {
		want, n, _ := Read(s)
		for i := range 1 << 16 {
			got, m, is := Read(s + string([]byte{byte(i >> 8), byte(i)}))
			if m != n || !is || !reflect.DeepEqual(got, want) {
				t.Fatalf("Read(%q and %d) = %q, %d, %v", s, i, written(got), m, is)
			}
		}
		for _, behind := range []string{">", "/>", "\">", "' b=c>", "</a>", "<b>", strings.Repeat(">", 1<<16)} {
			if got, m, is := Read(s + behind); m != n || !is || !reflect.DeepEqual(got, want) {
				t.Fatalf("Read(%q and %.9q) = %q, %d, %v", s, behind, written(got), m, is)
			}
		}
	}
}

// P8.2: Closes: the name by Fold, and what ends it; no empty name, no other tag, nothing that goes on.
func TestCloses(t *testing.T) {
	cases := []struct {
		s, name string
		is      bool
	}{
		{"</p>", "p", true}, {"</P >", "p", true}, {"</p>", "P", true}, {"</STYLE>", "style", true}, {"</sTyLe\n>", "StYlE", true}, {"</p/>", "p", true}, {"</p/", "p", true}, {"</p ", "p", true}, {"</p>x", "p", true},
		{"</p\t", "p", true}, {"</p\n", "p", true}, {"</p\f", "p", true}, {"</p\r", "p", true}, {"</p\v", "p", false}, {"</p\u00a0", "p", false}, {"</p\x00", "p", false},
		{"</p", "p", false}, {"</pp>", "p", false}, {"</p>", "pp", false}, {"</p1>", "p", false}, {"</p=>", "p", false}, {"</p<", "p", false}, {"</p->", "p", false}, {"</p\">", "p", false}, {"</p-->", "p", false},
		{"", "p", false}, {"<", "p", false}, {"</", "p", false}, {"<p>", "p", false}, {"< /p>", "p", false}, {"</ p>", "p", false}, {"<//p>", "p", false}, {" </p>", "p", false}, {"x</p>", "p", false}, {"/p>", "p", false}, {"p>", "p", false}, {"</q>", "p", false},
		{"</>", "", false}, {"</ ", "", false}, {"</", "", false}, {"", "", false}, {"<//", "", false}, {"<//>", "", false}, {"</p>", "", false},
		{"</h1>", "h1", true}, {"</h1>", "h", false}, {"</h1>", "h2", false}, {"</a b>", "a b", true}, {"</a b>", "a", true}, {"</>>", ">", true}, {"<// ", "/", true}, {"</ /", " ", true}, {"</1>", "1", true}, {"</ä>", "ä", true}, {"</Ä>", "ä", false}, {"</\xff>", "\xff", true}, {"</\u212a>", "k", false}, {"</k>", "\u212a", false}, {"</[>", "{", false}, {"</@>", "`", false},
	}
	for _, c := range cases {
		if got := Closes(c.s, c.name); got != c.is {
			t.Errorf("Closes(%q, %q) = %v", c.s, c.name, got)
		}
	}
	for c := range 256 {
		s := "</Title" + string([]byte{byte(c)})
		if got := Closes(s, "title"); got != (strings.IndexByte(spaces+"/>", byte(c)) >= 0) {
			t.Errorf("Closes(%q) = %v", s, got)
		}
	}
	for _, name := range []string{"p", "a b", "", "x"} {
		for n := range len("</p>") {
			if Closes("</p>"[:n], name) {
				t.Errorf("Closes(%q, %q)", "</p>"[:n], name)
			}
		}
	}
}

// P8.2: where Closes tells yes of a name, Read reads an end tag of that name, or is cut.
func TestClosesAsRead(t *testing.T) {
	for _, s := range []string{"</p>", "</P a=b>", "</p/>", "</p ", "</p/", "</p", "</pp>", "</p\n\n>", "<p>", "</q>", "</p a='>"} {
		token, n, is := Read(s)
		reads := is && token.Kind == api.Close && token.Name == "p"
		cut := n == len(s) && !is && len(s) > len("</p")
		if got := Closes(s, "p"); got != (reads || cut) {
			t.Errorf("Closes(%q) = %v, but %q is read, %d, %v", s, got, written(token), n, is)
		}
	}
}

// Rules: two answers share no list.
func TestKeepsApart(t *testing.T) {
	first, _, _ := Read("<a b=c d=e>")
	second, _, _ := Read("<a b=c d=e>")
	first.Attrs[0].Value = "x"
	_ = append(first.Attrs[:1], api.Attr{Name: "y"})
	if written(second) != "<a[b|c][d|e]" {
		t.Errorf("answers share: %q", written(second))
	}
}

// P0: great tags end soon: of many attributes, of long names and values, of references, cut and not.
func TestGreat(t *testing.T) {
	var many strings.Builder
	for i := 0; many.Len() < 1<<23; i++ {
		many.WriteString(" " + strconv.FormatInt(int64(i), 36))
	}
	token, n, is := Read("<a" + many.String() + ">")
	if want := len(strings.Fields(many.String())); !is || n != many.Len()+3 || len(token.Attrs) != want {
		t.Errorf("a tag of %d attributes has %d", want, len(token.Attrs))
	}
	if _, n, is = Read("<a" + many.String()); is || n != many.Len()+2 {
		t.Errorf("a tag that is cut takes %d, %v", n, is)
	}
	long := 1<<24 - 10
	for _, one := range []string{"a", " ", "/", "=", "b ", "\"\"", "a=&lt; ", "&", "<", "é", "a='", "a=\""} {
		s := "<a " + strings.Repeat(one, long/len(one)) + ">"
		if _, n, is := Read(s); n != len(s) || !is && strings.IndexAny(one, "'\"") < 0 {
			t.Errorf("a great tag of %q takes %d of %d, %v", one, n, len(s), is)
		}
	}
	name := strings.Repeat("A", long/2)
	if !Closes("</"+strings.ToLower(name)+">", name) || Closes("</"+name, name) || Closes("</"+name, name+"a") {
		t.Error("a great name is closed otherwise")
	}
}
