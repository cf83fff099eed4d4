package lexer

import (
	"reflect"
	"regexp"
	"strings"
	"testing"

	"hoarding/api"
	"hoarding/charref"
	"hoarding/raw"
	"hoarding/remark"
	"hoarding/tag"
)

// The tokens that are told here.
func textOf(data string) api.Token    { return api.Token{Kind: api.Text, Data: data} }
func startOf(name string) api.Token   { return api.Token{Kind: api.Start, Name: name} }
func closeOf(name string) api.Token   { return api.Token{Kind: api.Close, Name: name} }
func commentOf(data string) api.Token { return api.Token{Kind: api.Comment, Data: data} }
func doctypeOf(name string) api.Token { return api.Token{Kind: api.Doctype, Name: name} }

// states are the States, and numbers that are none.
var states = []int{api.Data, api.Rcdata, api.Rawtext, api.Script, api.Plaintext, 5, -1, -1 << 62}

// way is what a lexer is told each time.
type way struct {
	state   int
	last    string
	foreign bool
}

// beginModel are the beginnings of tags and of remarks.
var beginModel = regexp.MustCompile(`(?s)^<(?:/?[a-zA-Z]|[!?]|/.)`)

// modelText is the Text with which s begins in the state Data, and how many bytes it takes; 0, if it begins otherwise.
func modelText(s string) int {
	n := 0
	for n < len(s) && !beginModel.MatchString(s[n:]) {
		n++
	}
	return n
}

// modelData is Next in the state Data by the chapter's words, s being left: the token, and what is left then.
func modelData(s string, foreign bool) (api.Token, string) {
	if s == "" {
		return api.Token{}, ""
	}
	if n := modelText(s); n > 0 {
		return textOf(charref.Decode(s[:n], false)), s[n:]
	}
	token, n, is := tag.Read(s)
	if !is && n == 0 {
		token, n, is = remark.Read(s, foreign)
	}
	if !is {
		return modelData(s[n:], foreign)
	}
	return token, s[n:]
}

// model is Next by the chapter's words, s being left: the token, and what is left then.
func model(s string, w way) (api.Token, string) {
	if w.state == api.Data {
		return modelData(s, w.foreign)
	}
	n := raw.Find(s, w.last, w.state)
	switch {
	case n > 0 && w.state == api.Rcdata:
		return textOf(charref.Decode(s[:n], false)), s[n:]
	case n > 0:
		return textOf(s[:n]), s[n:]
	}
	if token, n, is := tag.Read(s); is {
		return token, s[n:]
	}
	return api.Token{}, ""
}

// look holds each Next of s, told those ways in turn, against the model, up to the End, and against what follows (P11.4); it answers the tokens.
func look(t *testing.T, s string, ways ...way) []api.Token {
	t.Helper()
	x := New(s)
	if x.Left() != s {
		t.Fatalf("%q is left of %q at its beginning", x.Left(), s)
	}
	var all []api.Token
	for i := 0; ; i++ {
		w, ahead := ways[i%len(ways)], x.Left()
		got := x.Next(w.state, w.last, w.foreign)
		want, left := model(ahead, w)
		if !reflect.DeepEqual(got, want) || x.Left() != left {
			t.Fatalf("of %q, Next(%d, %q, %v) with %q left is %+v, and leaves %q, not %+v, %q", s, w.state, w.last, w.foreign, ahead, got, x.Left(), want, left)
		}
		if !strings.HasSuffix(ahead, x.Left()) || got.Kind != api.End && len(ahead) == len(x.Left()) || got.Kind == api.Text && got.Data == "" {
			t.Fatalf("of %q, %+v takes %q to %q", s, got, ahead, x.Left())
		}
		all = append(all, got)
		if got.Kind == api.End {
			break
		}
	}
	lookOver(t, x)
	return all
}

// lookOver holds x, behind its End, against that in all ways.
func lookOver(t *testing.T, x *Lexer) {
	t.Helper()
	for _, state := range states {
		for _, last := range []string{"", "p"} {
			for _, foreign := range []bool{false, true} {
				if got := x.Next(state, last, foreign); !reflect.DeepEqual(got, api.Token{}) || x.Left() != "" {
					t.Fatalf("behind the End, Next(%d, %q, %v) is %+v, and leaves %q", state, last, foreign, got, x.Left())
				}
			}
		}
	}
}

// lookData is look in the state Data alone; not foreign, All tells the same.
func lookData(t *testing.T, s string, foreign bool) []api.Token {
	t.Helper()
	all := look(t, s, way{api.Data, "", foreign})
	if last := look(t, s, way{api.Data, "p", foreign}); !reflect.DeepEqual(last, all) {
		t.Fatalf("%q in the state Data hangs on last: %+v, %+v", s, all, last)
	}
	if told := All(s); !foreign && !reflect.DeepEqual(told, all) {
		t.Fatalf("All(%q) = %+v, not %+v", s, told, all)
	}
	return all
}

// one is a text, and the tokens that it is, but the End.
type one struct {
	s    string
	want []api.Token
}

// of are tokens.
func of(tokens ...api.Token) []api.Token { return tokens }

// lookEach holds each text, in the state Data, against what is wanted, and against the model.
func lookEach(t *testing.T, foreign bool, list []one) {
	t.Helper()
	for _, c := range list {
		if got := lookData(t, c.s, foreign); !reflect.DeepEqual(got, append(c.want, api.Token{})) {
			t.Errorf("%q (foreign %v) is %+v, not %+v", c.s, foreign, got, c.want)
		}
	}
}

// lookBoth is lookEach, foreign and not.
func lookBoth(t *testing.T, list []one) {
	t.Helper()
	lookEach(t, false, list)
	lookEach(t, true, list)
}

// P11.1: Left ahead of, between and behind tokens; each lexer has a place of its own.
func TestLeft(t *testing.T) {
	const s = "a<b>c<!--d--></>e</f>"
	x, y := New(s), New(s)
	for _, c := range []struct {
		token api.Token
		left  string
	}{
		{textOf("a"), "<b>c<!--d--></>e</f>"}, {startOf("b"), "c<!--d--></>e</f>"}, {textOf("c"), "<!--d--></>e</f>"}, {commentOf("d"), "</>e</f>"}, {textOf("e"), "</f>"}, {closeOf("f"), ""}, {api.Token{}, ""}, {api.Token{}, ""},
	} {
		if got := x.Next(api.Data, "", false); !reflect.DeepEqual(got, c.token) || x.Left() != c.left || x.Left() != c.left {
			t.Errorf("%+v, with %q left, not %+v, %q", got, x.Left(), c.token, c.left)
		}
	}
	if y.Left() != s {
		t.Errorf("one lexer's tokens are taken of another one: %q", y.Left())
	}
	if z := New(""); z.Left() != "" {
		t.Errorf("%q is left of nothing", z.Left())
	}
}

// P11.1: the End, of nothing, and where all that is left is passed over.
func TestEnd(t *testing.T) {
	lookBoth(t, []one{{"", nil}, {"</>", nil}, {"</></>", nil}, {"<a", nil}, {"</a", nil}, {"</><a", nil}, {"<a b='>", nil}})
	lookEach(t, true, []one{{"<![CDATA[]]>", nil}, {"<![CDATA[", nil}, {"<![CDATA[]]></><![CDATA[]]></a", nil}})
	for _, s := range []string{"</>", "<a", "</></b c", "<a b=\"</a>"} {
		x := New(s)
		if got := x.Next(api.Data, "", false); !reflect.DeepEqual(got, api.Token{}) || x.Left() != "" {
			t.Errorf("of %q comes %+v, and %q is left", s, got, x.Left())
		}
		lookOver(t, x)
	}
}

// P11.2: text alone, and its references.
func TestText(t *testing.T) {
	lookBoth(t, []one{
		{"a", of(textOf("a"))}, {"a b\n", of(textOf("a b\n"))}, {" ", of(textOf(" "))}, {">", of(textOf(">"))}, {"a>b", of(textOf("a>b"))}, {"]]>", of(textOf("]]>"))}, {"-->", of(textOf("-->"))}, {"/", of(textOf("/"))}, {"é\xff\x00", of(textOf("é\xff\x00"))}, {"A", of(textOf("A"))}, {"\r\n", of(textOf("\r\n"))},
		{"&amp;", of(textOf("&"))}, {"a&lt;b>c", of(textOf("a<b>c"))}, {"&#60;b&#x3e;", of(textOf("<b>"))}, {"&amp;lt;", of(textOf("&lt;"))}, {"&ampx", of(textOf("&x"))}, {"&amp=", of(textOf("&="))}, {"&", of(textOf("&"))}, {"&none;", of(textOf("&none;"))}, {"&#0;", of(textOf("\ufffd"))}, {"&am", of(textOf("&am"))}, {"&amp", of(textOf("&"))},
		{"&amp<b>", of(textOf("&"), startOf("b"))}, {"&am<b>p;", of(textOf("&am"), startOf("b"), textOf("p;"))}, {"<b>&lt;/b>", of(startOf("b"), textOf("</b>"))}, {"&lt<!--&lt;-->&lt;", of(textOf("<"), commentOf("&lt;"), textOf("<"))}, {"&</>lt;", of(textOf("&"), textOf("lt;"))},
	})
}

// P11.2: < with what begins neither a tag nor a remark is text.
func TestLess(t *testing.T) {
	lookBoth(t, []one{
		{"<", of(textOf("<"))}, {"<<", of(textOf("<<"))}, {"</", of(textOf("</"))}, {"a<", of(textOf("a<"))}, {"a</", of(textOf("a</"))}, {"< b>", of(textOf("< b>"))}, {"<1>", of(textOf("<1>"))}, {"<>", of(textOf("<>"))}, {"<é>", of(textOf("<é>"))}, {"<@", of(textOf("<@"))}, {"<[", of(textOf("<["))}, {"<`", of(textOf("<`"))}, {"<{", of(textOf("<{"))}, {"<-", of(textOf("<-"))}, {"<&amp;", of(textOf("<&"))}, {"<\x00", of(textOf("<\x00"))}, {"<\xff>", of(textOf("<\xff>"))}, {"<\"", of(textOf("<\""))}, {"<=", of(textOf("<="))},
		{"a<b", of(textOf("a"))}, {"a < b", of(textOf("a < b"))}, {"a<=b<1", of(textOf("a<=b<1"))}, {"a< <b>", of(textOf("a< "), startOf("b"))}, {"<<b>", of(textOf("<"), startOf("b"))}, {"<<<b>", of(textOf("<<"), startOf("b"))}, {"<</b>", of(textOf("<"), closeOf("b"))}, {"<<!--a-->", of(textOf("<"), commentOf("a"))}, {"<<?a>", of(textOf("<"), commentOf("?a"))}, {"<</>", of(textOf("<"))}, {"<</>a", of(textOf("<"), textOf("a"))}, {"<</1>", of(textOf("<"), commentOf("1"))},
		{"<b><", of(startOf("b"), textOf("<"))}, {"<b></", of(startOf("b"), textOf("</"))}, {"<b>< </b>", of(startOf("b"), textOf("< "), closeOf("b"))}, {"<!--a--><1>", of(commentOf("a"), textOf("<1>"))}, {"</><", of(textOf("<"))}, {"</></", of(textOf("</"))}, {"a</><", of(textOf("a"), textOf("<"))}, {"&lt;<&lt;", of(textOf("<<<"))}, {"<&#x62;>", of(textOf("<b>"))},
	})
}

// P11.2: a tag, alone, ahead of text, behind it, and within it.
func TestTag(t *testing.T) {
	lookBoth(t, []one{
		{"<b>", of(startOf("b"))}, {"</b>", of(closeOf("b"))}, {"<B>", of(startOf("b"))}, {"</B >", of(closeOf("b"))}, {"<b>a", of(startOf("b"), textOf("a"))}, {"a<b>", of(textOf("a"), startOf("b"))}, {"a<b>c", of(textOf("a"), startOf("b"), textOf("c"))}, {"a</b>c", of(textOf("a"), closeOf("b"), textOf("c"))}, {"<b><c></c></b>", of(startOf("b"), startOf("c"), closeOf("c"), closeOf("b"))}, {"<b>>", of(startOf("b"), textOf(">"))},
		{"a<b c=d>e", of(textOf("a"), api.Token{Kind: api.Start, Name: "b", Attrs: []api.Attr{{Name: "c", Value: "d"}}}, textOf("e"))}, {"<br/>", of(api.Token{Kind: api.Start, Name: "br", Self: true})}, {"a<b c='<d>'/>e", of(textOf("a"), api.Token{Kind: api.Start, Name: "b", Attrs: []api.Attr{{Name: "c", Value: "<d>"}}, Self: true}, textOf("e"))}, {"<b c=&amp;&ampd>", of(api.Token{Kind: api.Start, Name: "b", Attrs: []api.Attr{{Name: "c", Value: "&&ampd"}}})}, {"</b c=d/>a", of(closeOf("b"), textOf("a"))}, {"<b<c>d", of(startOf("b<c"), textOf("d"))}, {"<b <c>d", of(api.Token{Kind: api.Start, Name: "b", Attrs: []api.Attr{{Name: "<c"}}}, textOf("d"))}, {"<a!-- b>", of(api.Token{Kind: api.Start, Name: "a!--", Attrs: []api.Attr{{Name: "b"}}})},
		{"<title><b></title>", of(startOf("title"), startOf("b"), closeOf("title"))}, {"<script><!--</script>-->", of(startOf("script"), commentOf("</script>"))}, {"<plaintext></plaintext>", of(startOf("plaintext"), closeOf("plaintext"))},
	})
}

// P11.2: comments, doctypes and CDATA, alone, ahead of text, behind it, and within it.
func TestRemark(t *testing.T) {
	lookBoth(t, []one{
		{"<!--a-->", of(commentOf("a"))}, {"<!--a-->b", of(commentOf("a"), textOf("b"))}, {"a<!--b-->", of(textOf("a"), commentOf("b"))}, {"a<!--b-->c", of(textOf("a"), commentOf("b"), textOf("c"))}, {"a<!--<b>", of(textOf("a"), commentOf("<b>"))}, {"<!---->", of(commentOf(""))}, {"<!-->a", of(commentOf(""), textOf("a"))}, {"<!", of(commentOf(""))}, {"a<!", of(textOf("a"), commentOf(""))}, {"a<!-", of(textOf("a"), commentOf("-"))}, {"a<!b>c", of(textOf("a"), commentOf("b"), textOf("c"))},
		{"<!doctype html>", of(doctypeOf("html"))}, {"<!DOCTYPE HTML>a", of(doctypeOf("html"), textOf("a"))}, {"a<!doctype html>", of(textOf("a"), doctypeOf("html"))}, {"a<!doctypeb>c", of(textOf("a"), doctypeOf("b"), textOf("c"))}, {"a<!doctype", of(textOf("a"), doctypeOf(""))},
		{"<?a>", of(commentOf("?a"))}, {"a<?b>c", of(textOf("a"), commentOf("?b"), textOf("c"))}, {"<?", of(commentOf("?"))}, {"a<?", of(textOf("a"), commentOf("?"))}, {"</ a>", of(commentOf(" a"))}, {"a</ b>c", of(textOf("a"), commentOf(" b"), textOf("c"))}, {"a</1", of(textOf("a"), commentOf("1"))}, {"a</<b>c", of(textOf("a"), commentOf("<b"), textOf("c"))}, {"a<//b>", of(textOf("a"), commentOf("/b"))}, {"a</é>", of(textOf("a"), commentOf("é"))},
	})
	lookEach(t, true, []one{
		{"<![CDATA[a]]>", of(textOf("a"))}, {"<![CDATA[a]]>b", of(textOf("a"), textOf("b"))}, {"a<![CDATA[b]]>", of(textOf("a"), textOf("b"))}, {"a<![CDATA[b]]>c", of(textOf("a"), textOf("b"), textOf("c"))}, {"a<![CDATA[<b>&amp;</b>", of(textOf("a"), textOf("<b>&amp;</b>"))}, {"&amp;<![CDATA[&amp;]]>&amp;", of(textOf("&"), textOf("&amp;"), textOf("&"))}, {"<![CDATA[ ]]><b>", of(textOf(" "), startOf("b"))}, {"<b><![CDATA[a>]]></b>", of(startOf("b"), textOf("a>"), closeOf("b"))},
	})
	lookEach(t, false, []one{
		{"<![CDATA[a]]>", of(commentOf("[CDATA[a]]"))}, {"a<![CDATA[b>c]]>", of(textOf("a"), commentOf("[CDATA[b"), textOf("c]]>"))}, {"<![CDATA[]]>a", of(commentOf("[CDATA[]]"), textOf("a"))}, {"a<![CDATA[", of(textOf("a"), commentOf("[CDATA["))},
	})
}

// P11.2: what is passed over, alone, ahead of text and behind it: texts around it are tokens of their own.
func TestPassed(t *testing.T) {
	lookBoth(t, []one{
		{"</>a", of(textOf("a"))}, {"a</>", of(textOf("a"))}, {"a</>b", of(textOf("a"), textOf("b"))}, {"a</></>b", of(textOf("a"), textOf("b"))}, {"</><b>", of(startOf("b"))}, {"<b></>", of(startOf("b"))}, {"</></b>a", of(closeOf("b"), textOf("a"))}, {"</><!--a--></>", of(commentOf("a"))}, {"</>>", of(textOf(">"))}, {"</></", of(textOf("</"))}, {"</ ></>", of(commentOf(" "))},
	})
	lookEach(t, true, []one{
		{"<![CDATA[]]>a", of(textOf("a"))}, {"a<![CDATA[]]>", of(textOf("a"))}, {"a<![CDATA[]]>b", of(textOf("a"), textOf("b"))}, {"<![CDATA[]]><b>", of(startOf("b"))}, {"a<![CDATA[", of(textOf("a"))}, {"<![CDATA[]]></><![CDATA[a]]>", of(textOf("a"))}, {"<![CDATA[]]>]]>", of(textOf("]]>"))},
	})
}

// P11.2: tags that are cut off are passed over, and all behind their beginning, alone and behind text.
func TestCutOff(t *testing.T) {
	lookBoth(t, []one{
		{"<a", nil}, {"</a", nil}, {"<a ", nil}, {"<a/", nil}, {"<a b", nil}, {"<a b=", nil}, {"<a b=c", nil}, {"<a b='", nil}, {"<a b='>", nil}, {"<a b=\"c\"", nil}, {"<a b='c\">d<e>", nil}, {"</a b", nil}, {"<a <b", nil}, {"<a<!--", nil},
		{"a<b", of(textOf("a"))}, {"a</b", of(textOf("a"))}, {"&lt;<b", of(textOf("<"))}, {"<<b", of(textOf("<"))}, {"a<b c='>d</b>", of(textOf("a"))}, {"<b>a</b", of(startOf("b"), textOf("a"))}, {"<b><c", of(startOf("b"))}, {"<!--a--><b", of(commentOf("a"))}, {"</><b", nil}, {"a</><b", of(textOf("a"))}, {"<b></b", of(startOf("b"))},
	})
}

// raws is a text as it is cut in other states than Data, told ways, and the tokens that it is, but the End.
type raws struct {
	s    string
	w    way
	want []api.Token
}

// lookRaws holds each one, foreign and not, against what is wanted.
func lookRaws(t *testing.T, list []raws) {
	t.Helper()
	for _, c := range list {
		for _, foreign := range []bool{false, true} {
			c.w.foreign = foreign
			if got := look(t, c.s, c.w); !reflect.DeepEqual(got, append(c.want, api.Token{})) {
				t.Errorf("%q by %+v is %+v, not %+v", c.s, c.w, got, c.want)
			}
		}
	}
}

// P11.3: Rcdata, with references; Rawtext, without.
func TestRcdata(t *testing.T) {
	for _, state := range []int{api.Rcdata, api.Rawtext} {
		w := way{state: state, last: "p"}
		lookRaws(t, []raws{
			{"", w, nil}, {"a", w, of(textOf("a"))}, {"a</p>", w, of(textOf("a"), closeOf("p"))}, {"</p>", w, of(closeOf("p"))}, {"</p>a", w, of(closeOf("p"), textOf("a"))}, {"a</P>", w, of(textOf("a"), closeOf("p"))}, {"a</p >b", w, of(textOf("a"), closeOf("p"), textOf("b"))}, {"a</p b=c/>d", w, of(textOf("a"), closeOf("p"), textOf("d"))}, {"a</p/>", w, of(textOf("a"), closeOf("p"))}, {"a</p</p>", w, of(textOf("a</p"), closeOf("p"))}, {"</p></p>", w, of(closeOf("p"), closeOf("p"))}, {"a</p\t>", w, of(textOf("a"), closeOf("p"))},
			{"a<b>c</b><!--d--></><?e></q>", w, of(textOf("a<b>c</b><!--d--></><?e></q>"))}, {"<p>a</pp></p>", w, of(textOf("<p>a</pp>"), closeOf("p"))}, {"</>", w, of(textOf("</>"))}, {"<![CDATA[]]></p>", w, of(textOf("<![CDATA[]]>"), closeOf("p"))}, {"<!--</p>-->", w, of(textOf("<!--"), closeOf("p"), textOf("-->"))}, {"<", w, of(textOf("<"))}, {"</", w, of(textOf("</"))}, {"</p", w, of(textOf("</p"))}, {"a</p", w, of(textOf("a</p"))},
			{"</p ", w, nil}, {"</p/", w, nil}, {"</p a='>", w, nil}, {"a</p b", w, of(textOf("a"))}, {"a</p </p", w, of(textOf("a"))}, {"a</p>b</p c=\">", w, of(textOf("a"), closeOf("p"), textOf("b"))},
		})
	}
	lookRaws(t, []raws{
		{"&lt;/p>&amp</p>", way{state: api.Rcdata, last: "p"}, of(textOf("</p>&"), closeOf("p"))}, {"&ampx&amp=", way{state: api.Rcdata, last: "p"}, of(textOf("&x&="))}, {"<&#0;>", way{state: api.Rcdata, last: "p"}, of(textOf("<\ufffd>"))}, {"&l</p>t;", way{state: api.Rcdata, last: "p"}, of(textOf("&l"), closeOf("p"), textOf("t;"))},
		{"&lt;/p>&amp</p>", way{state: api.Rawtext, last: "p"}, of(textOf("&lt;/p>&amp"), closeOf("p"))}, {"&#0;", way{state: api.Rawtext, last: "p"}, of(textOf("&#0;"))},
	})
}

// P11.3: scripts, with what hides end tags; text of other states is all that is left.
func TestOtherStates(t *testing.T) {
	w := way{state: api.Script, last: "script"}
	lookRaws(t, []raws{
		{"", w, nil}, {"a<b&amp;</script>c", w, of(textOf("a<b&amp;"), closeOf("script"), textOf("c"))}, {"</script>", w, of(closeOf("script"))}, {"</SCRIPT>", w, of(closeOf("script"))}, {"a</style></script>", w, of(textOf("a</style>"), closeOf("script"))}, {"a", w, of(textOf("a"))}, {"a</script b", w, of(textOf("a"))}, {"</script b", w, nil},
		{"<!--</script>a", w, of(textOf("<!--"), closeOf("script"), textOf("a"))}, {"<!--<script></script>--></script>", w, of(textOf("<!--<script></script>-->"), closeOf("script"))}, {"<!--<script></script>", w, of(textOf("<!--<script></script>"))}, {"<!--<script>", w, of(textOf("<!--<script>"))},
		{"a</p>", way{state: api.Script, last: "p"}, of(textOf("a"), closeOf("p"))}, {"a</p></script>", way{state: api.Script, last: "q"}, of(textOf("a</p></script>"))},
	})
	for _, state := range []int{api.Plaintext, 5, 6, -1, 1 << 62, -1 << 62} {
		for _, last := range []string{"", "p", "plaintext"} {
			w := way{state: state, last: last}
			lookRaws(t, []raws{{"", w, nil}, {"a", w, of(textOf("a"))}, {"</p>", w, of(textOf("</p>"))}, {"</plaintext>&amp;<b", w, of(textOf("</plaintext>&amp;<b"))}, {"</>", w, of(textOf("</>"))}})
		}
	}
}

// P11.3: a last that is empty ends nothing; of one that begins with no letter, or has more in it than a tag's name, comes what tags say.
func TestLast(t *testing.T) {
	for _, state := range []int{api.Rcdata, api.Rawtext, api.Script} {
		lookRaws(t, []raws{
			{"</>", way{state: state}, of(textOf("</>"))}, {"a</p></ >", way{state: state}, of(textOf("a</p></ >"))}, {"</ >", way{state: state}, of(textOf("</ >"))},
			{"</1>", way{state: state, last: "1"}, nil}, {"a</1>b", way{state: state, last: "1"}, of(textOf("a"))}, {"a</1>b</p>", way{state: state, last: "1"}, of(textOf("a"))}, {"</!-->a", way{state: state, last: "!--"}, nil}, {"a</ b>c", way{state: state, last: " "}, of(textOf("a</ b>c"))}, {"a</ >b", way{state: state, last: " "}, of(textOf("a"))}, {"a</  >b", way{state: state, last: " "}, of(textOf("a"))}, {"</é >", way{state: state, last: "é"}, nil}, {"a</>>b", way{state: state, last: ">"}, of(textOf("a"))}, {"a<//>b", way{state: state, last: "/"}, of(textOf("a"))}, {"</\xff>", way{state: state, last: "\xff"}, nil}, {"a</@>", way{state: state, last: "@"}, of(textOf("a"))}, {"a</1", way{state: state, last: "1"}, of(textOf("a</1"))},
			{"a</b/c>d", way{state: state, last: "b/c"}, of(textOf("a"), closeOf("b"), textOf("d"))}, {"a</b c>d", way{state: state, last: "b c"}, of(textOf("a"), closeOf("b"), textOf("d"))}, {"a</b>c >d", way{state: state, last: "b>c"}, of(textOf("a"), closeOf("b"), textOf("c >d"))}, {"a</b' >", way{state: state, last: "B'"}, of(textOf("a"), closeOf("b'"))}, {"a</b <c>d", way{state: state, last: "B <C"}, of(textOf("a"), closeOf("b"), textOf("d"))},
		})
	}
}

// P11.1 to P11.4: what is left is cut as each call is told, whatever was told ahead.
func TestInTurn(t *testing.T) {
	x := New("<title>a<b>&amp;</TITLE>&lt;<![CDATA[x>]]><svg><![CDATA[y]]><plaintext></svg>&amp;<")
	for _, c := range []struct {
		w    way
		want api.Token
	}{
		{way{}, startOf("title")}, {way{api.Rcdata, "title", false}, textOf("a<b>&")}, {way{api.Rcdata, "title", false}, closeOf("title")}, {way{}, textOf("<")}, {way{}, commentOf("[CDATA[x")}, {way{}, textOf("]]>")}, {way{}, startOf("svg")}, {way{foreign: true}, textOf("y")}, {way{foreign: true}, startOf("plaintext")}, {way{state: api.Plaintext}, textOf("</svg>&amp;<")}, {way{}, api.Token{}},
	} {
		if got := x.Next(c.w.state, c.w.last, c.w.foreign); !reflect.DeepEqual(got, c.want) {
			t.Errorf("Next by %+v is %+v, not %+v, with %q left", c.w, got, c.want, x.Left())
		}
	}
	pieces := []string{"<title>", "</title>", "</title", "<!--", "-->", "&lt;", "<![CDATA[", "]]>", "</>", "<", "</1>", "a"}
	ways := []way{{}, {foreign: true}, {api.Rcdata, "title", false}, {api.Rawtext, "TITLE", true}, {api.Script, "title", false}, {api.Rcdata, "1", false}}
	each(pieces, 4, func(s string) {
		for i := range ways {
			look(t, s, ways[i], ways[(i+1)%len(ways)])
			look(t, s, ways[i], ways[(i+1)%len(ways)], ways[(i+3)%len(ways)])
		}
	})
}

// each calls do with each text of at most so many of the pieces.
func each(pieces []string, most int, do func(string)) {
	do("")
	if most == 0 {
		return
	}
	for _, p := range pieces {
		each(pieces, most-1, func(s string) {
			do(p + s)
		})
	}
}

// P11.2, P11.3, P11.4: all short texts of what counts, held against the model.
func TestModel(t *testing.T) {
	each([]string{"<", "/", ">", "a", "!", "-", "?", "&lt", " ", "'"}, 5, func(s string) {
		look(t, s, way{})
	})
	each([]string{"<a", "</a", "</", ">", "<!--", "-->", "<![CDATA[", "]]>", "</>", "<", "&amp;", " ", "b"}, 4, func(s string) {
		lookData(t, s, false)
		lookData(t, s, true)
		for _, state := range states[1:] {
			look(t, s, way{state, "A", false})
		}
	})
}

// P11.2, P11.3: every byte at every place.
func TestEachByte(t *testing.T) {
	for _, s := range []string{"a<b c=d>e</b>f<!--g-->h<!doctype i>j</>k<![CDATA[l]]>&lt;", "<b", "</b", "a</p>b", "<!-- <script></script> --></script>"} {
		for at := range len(s) {
			for c := range 256 {
				for _, changed := range []string{s[:at] + string([]byte{byte(c)}) + s[at:], s[:at] + string([]byte{byte(c)}) + s[at+1:]} {
					look(t, changed, way{})
					look(t, changed, way{foreign: true})
					look(t, changed, way{state: api.Rcdata, last: "p"})
					look(t, changed, way{state: api.Script, last: "script"})
				}
			}
		}
	}
}

// P11.1 to P11.4: each cut at each byte.
func TestCut(t *testing.T) {
	for _, s := range []string{"a&amp;<b c='d>' e=\"f\" g=h/>i</b j>k<!--l--!>m<!doctype n o>p<?q>r</ s>t</>u<![CDATA[v]]>w", "a</title >b</TITLE/>c</title d='>'>e", "<!--a<script b>c</script>d-->e</script>f"} {
		for at := range len(s) + 1 {
			for _, cut := range []string{s[:at], s[at:]} {
				lookData(t, cut, false)
				lookData(t, cut, true)
				for _, state := range states {
					look(t, cut, way{state: state, last: "title"})
					look(t, cut, way{state: state, last: "script"})
				}
			}
		}
	}
}

// count is how many tokens s is, told one way, and how many bytes their Data and Names have.
func count(t *testing.T, s string, w way) (tokens, bytes int) {
	t.Helper()
	for x := New(s); ; tokens++ {
		left := len(x.Left())
		token := x.Next(w.state, w.last, w.foreign)
		if token.Kind == api.End {
			return tokens, bytes
		}
		if len(x.Left()) >= left {
			t.Fatalf("%+v takes nothing", token)
		}
		bytes += len(token.Data) + len(token.Name)
	}
}

// P0: great texts, of many tokens or of few, end soon, cut off or not.
func TestGreat(t *testing.T) {
	const long = 1 << 22
	for _, c := range []struct {
		piece         string
		tokens, bytes int // of a piece, in the state Data, not foreign; a negative count of tokens: of all
	}{
		{"a", -1, 1}, {"<", -1, 1}, {"< ", -1, 2}, {"</", -1, 2}, {"&lt;", -1, 1}, {"&", -1, 1}, {"1<", -1, 2}, {"<b>", 1, 1}, {"<a b c d e f>", 1, 1}, {"a<b>", 2, 2}, {"</b>", 1, 1}, {"</>", 0, 0}, {"a</>", 1, 1}, {"<?>", 1, 1}, {"<!---->", 1, 0}, {"a<!>", 2, 1}, {"<!doctype>", 1, 0}, {"</ >", 1, 1}, {"<![CDATA[a]]>", 1, 10}, {"<b '", 0, 0}, {"<b", 0, 0}, {"<b c='<b d=\"", 0, 0},
	} {
		many := long / len(c.piece)
		s := strings.Repeat(c.piece, many)
		tokens, bytes := many*c.tokens, many*c.bytes
		if c.tokens < 0 {
			tokens = 1
		}
		// What < and / begin is told by what comes next.
		if c.piece == "</" {
			tokens, bytes = 1, len(s)-len("</")
		}
		if gotTokens, gotBytes := count(t, s, way{}); gotTokens != tokens || gotBytes != bytes {
			t.Errorf("many %q are %d tokens of %d bytes, not %d of %d", c.piece, gotTokens, gotBytes, tokens, bytes)
		}
		count(t, s, way{state: api.Rcdata, last: "b"})
		count(t, s, way{state: api.Script, last: "b"})
	}
	s := strings.Repeat("</", 1<<23-1)
	for _, state := range states {
		if tokens, bytes := count(t, s+"1", way{state: state, last: "b"}); tokens != 1 || bytes < len(s)-1 {
			t.Errorf("%d bytes are, in the state %d, %d tokens of %d bytes", len(s)+1, state, tokens, bytes)
		}
	}
	if all := All(strings.Repeat("a<b>", 1<<18)); len(all) != 1<<19+1 || all[1<<19].Kind != api.End {
		t.Errorf("many tokens are %d", len(all))
	}
}
