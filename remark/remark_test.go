package remark

import (
	"reflect"
	"regexp"
	"strings"
	"testing"

	"hoarding/api"
)

// The tokens that are told here.
func commentOf(data string) api.Token { return api.Token{Kind: api.Comment, Data: data} }
func doctypeOf(name string) api.Token { return api.Token{Kind: api.Doctype, Name: name} }
func textOf(data string) api.Token    { return api.Token{Kind: api.Text, Data: data} }

// Where a byte of a comment is met in the model.
const (
	begun      = iota // nothing stands behind <!--
	begunDash         // - does
	within            // in the comment
	withinDash        // behind -
	ending            // behind --
	endingBang        // behind --!
)

// modelComment is a comment as it is read byte by byte, s standing behind its <!--: its Data, and how many bytes it takes.
func modelComment(s string) (string, int) {
	state, data := begun, []byte(nil)
	for at := 0; at < len(s); at++ {
		c := s[at]
		switch {
		case c == '>' && state != within && state != withinDash:
			return string(data), at + 1
		case c == '-' && state == ending:
			data = append(data, '-')
		case c == '-' && state == endingBang:
			data = append(data, "--!"...)
			state = withinDash
		case c == '-':
			state = map[int]int{begun: begunDash, begunDash: ending, within: withinDash, withinDash: ending}[state]
		case c == '!' && state == ending:
			state = endingBang
		default:
			data = append(data, map[int]string{begunDash: "-", withinDash: "-", ending: "--", endingBang: "--!"}[state]...)
			data = append(data, c)
			state = within
		}
	}
	return string(data), len(s)
}

// The rest of the chapter's words, as patterns.
var (
	doctypeModel = regexp.MustCompile(`(?s)^<![dD][oO][cC][tT][yY][pP][eE]([^>]*)>?`)
	nameModel    = regexp.MustCompile(`(?s)^[\t\n\f\r ]*([^\t\n\f\r ]*)`)
	sectionModel = regexp.MustCompile(`(?s)^<!\[CDATA\[(.*?)(\]\]>|\z)`)
	oddModel     = regexp.MustCompile(`(?s)^<(?:!|(\?)|/)([^>]*)>?`)
	letterModel  = regexp.MustCompile(`(?s)^</([a-zA-Z]|\z)`)
)

// lowModel is s with a to z for A to Z.
func lowModel(s string) string {
	b := []byte(s)
	for i := range b {
		if at := strings.IndexByte("ABCDEFGHIJKLMNOPQRSTUVWXYZ", b[i]); at >= 0 {
			b[i] = "abcdefghijklmnopqrstuvwxyz"[at]
		}
	}
	return string(b)
}

// model is Read by the model.
func model(s string, foreign bool) (api.Token, int, bool) {
	if rest, is := strings.CutPrefix(s, "<!--"); is {
		data, n := modelComment(rest)
		return commentOf(data), 4 + n, true
	}
	if m := doctypeModel.FindStringSubmatch(s); m != nil {
		return doctypeOf(lowModel(nameModel.FindStringSubmatch(m[1])[1])), len(m[0]), true
	}
	if m := sectionModel.FindStringSubmatch(s); m != nil && foreign {
		if m[1] == "" {
			return api.Token{}, len(m[0]), false
		}
		return textOf(m[1]), len(m[0]), true
	}
	if strings.HasPrefix(s, "</>") {
		return api.Token{}, 3, false
	}
	if m := oddModel.FindStringSubmatch(s); m != nil && !letterModel.MatchString(s) {
		return commentOf(m[1] + m[2]), len(m[0]), true
	}
	return api.Token{}, 0, false
}

// look holds Read of s, foreign and not, against the model, and against what follows (P9.2).
func look(t *testing.T, s string) {
	t.Helper()
	for _, foreign := range []bool{false, true} {
		got, n, is := Read(s, foreign)
		want, m, was := model(s, foreign)
		if !reflect.DeepEqual(got, want) || n != m || is != was {
			t.Fatalf("Read(%q, %v) = %+v, %d, %v, not %+v, %d, %v", s, foreign, got, n, is, want, m, was)
		}
		if n < 0 || n > len(s) || is && n == 0 {
			t.Fatalf("Read(%q, %v) takes %d", s, foreign, n)
		}
	}
}

// one is a text, what it is read as, and how many bytes that takes; 0: all of them.
type one struct {
	s    string
	want api.Token
	n    int
}

// lookEach holds each one against what is wanted, and against the model.
func lookEach(t *testing.T, foreign bool, list []one) {
	t.Helper()
	for _, c := range list {
		if c.n == 0 {
			c.n = len(c.s)
		}
		if got, n, is := Read(c.s, foreign); !reflect.DeepEqual(got, c.want) || n != c.n || !is {
			t.Errorf("Read(%q, %v) = %+v, %d, %v, not %+v, %d", c.s, foreign, got, n, is, c.want, c.n)
		}
		look(t, c.s)
	}
}

// P9.1: comments, their ends, and whichever of them comes first.
func TestComment(t *testing.T) {
	list := []one{
		{"<!--a-->", commentOf("a"), 0}, {"<!-- a b\n-->", commentOf(" a b\n"), 0}, {"<!--a--->", commentOf("a-"), 0}, {"<!--a---->", commentOf("a--"), 0}, {"<!--a--!>", commentOf("a"), 0}, {"<!--a---!>", commentOf("a-"), 0},
		{"<!--a-->b", commentOf("a"), 8}, {"<!--a--!>b", commentOf("a"), 9}, {"<!--a-->-->", commentOf("a"), 8}, {"<!--a--!>-->", commentOf("a"), 9}, {"<!--a-->b--!>", commentOf("a"), 8}, {"<!--a--!>b-->", commentOf("a"), 9}, {"<!--a--!-->", commentOf("a--!"), 0}, {"<!--a--!--!>", commentOf("a--!"), 0}, {"<!--a--!>--!>", commentOf("a"), 9},
		{"<!-->", commentOf(""), 0}, {"<!--->", commentOf(""), 0}, {"<!---->", commentOf(""), 0}, {"<!----!>", commentOf(""), 0}, {"<!----->", commentOf("-"), 0}, {"<!------>", commentOf("--"), 0}, {"<!-----!>", commentOf("-"), 0},
		{"<!-->a-->", commentOf(""), 5}, {"<!--->a-->", commentOf(""), 6}, {"<!---->a-->", commentOf(""), 7}, {"<!-->-->", commentOf(""), 5}, {"<!--->-->", commentOf(""), 6}, {"<!-->->", commentOf(""), 5}, {"<!-->>", commentOf(""), 5},
		{"<!-- >-->", commentOf(" >"), 0}, {"<!-- ->-->", commentOf(" ->"), 0}, {"<!--!>-->", commentOf("!>"), 0}, {"<!---!>-->", commentOf("-!>"), 0}, {"<!--a>-->", commentOf("a>"), 0}, {"<!--a->-->", commentOf("a->"), 0}, {"<!--a-!>-->", commentOf("a-!>"), 0}, {"<!--a!>-->", commentOf("a!>"), 0}, {"<!--a-- >-->", commentOf("a-- >"), 0}, {"<!--a--!!>-->", commentOf("a--!!>"), 0}, {"<!--a--! >-->", commentOf("a--! >"), 0}, {"<!--a- ->-->", commentOf("a- ->"), 0},
		{"<!--<!---->", commentOf("<!--"), 0}, {"<!--<!--->", commentOf("<!-"), 0}, {"<!--<!-->", commentOf("<!"), 0}, {"<!--<!--a-->-->", commentOf("<!--a"), 12}, {"<!--<p>&amp;</p>-->", commentOf("<p>&amp;</p>"), 0}, {"<!--A\x00\xffÄ-->", commentOf("A\x00\xffÄ"), 0}, {"<!--[if IE]>x<![endif]-->", commentOf("[if IE]>x<![endif]"), 0}, {"<!--]]>-->", commentOf("]]>"), 0}, {"<!--doctype html-->", commentOf("doctype html"), 0},
	}
	lookEach(t, false, list)
	lookEach(t, true, list)
}

// P9.1: comments that are not ended: without what might have begun their end, once.
func TestUnendedComment(t *testing.T) {
	list := []one{
		{"<!--", commentOf(""), 0}, {"<!---", commentOf(""), 0}, {"<!----", commentOf(""), 0}, {"<!----!", commentOf(""), 0}, {"<!-----", commentOf("-"), 0}, {"<!------", commentOf("--"), 0}, {"<!-----!", commentOf("-"), 0}, {"<!--!", commentOf("!"), 0}, {"<!---!", commentOf("-!"), 0},
		{"<!--a", commentOf("a"), 0}, {"<!--a-", commentOf("a"), 0}, {"<!--a--", commentOf("a"), 0}, {"<!--a--!", commentOf("a"), 0}, {"<!--a---", commentOf("a-"), 0}, {"<!--a----", commentOf("a--"), 0}, {"<!--a---!", commentOf("a-"), 0}, {"<!--a--!-", commentOf("a--!"), 0}, {"<!--a--!--", commentOf("a--!"), 0}, {"<!--a--!--!", commentOf("a--!"), 0}, {"<!--a-!", commentOf("a-!"), 0}, {"<!--a!", commentOf("a!"), 0}, {"<!--a--!!", commentOf("a--!!"), 0}, {"<!--a- -", commentOf("a- "), 0},
		{"<!--a--b", commentOf("a--b"), 0}, {"<!--a-b", commentOf("a-b"), 0}, {"<!--a>", commentOf("a>"), 0}, {"<!--a->", commentOf("a->"), 0}, {"<!--a-- ", commentOf("a-- "), 0}, {"<!--a--! ", commentOf("a--! "), 0}, {"<!--a <p> --\n>", commentOf("a <p> --\n>"), 0}, {"<!--a<!--", commentOf("a<!"), 0}, {"<!--é", commentOf("é"), 0},
	}
	lookEach(t, false, list)
	lookEach(t, true, list)
}

// P9.1: doctypes.
func TestDoctype(t *testing.T) {
	list := []one{
		{"<!doctype html>", doctypeOf("html"), 0}, {"<!DOCTYPE html>", doctypeOf("html"), 0}, {"<!DoCtYpE HTML>", doctypeOf("html"), 0}, {"<!dOCTYPe Html>x", doctypeOf("html"), 15}, {"<!doctypehtml>", doctypeOf("html"), 0}, {"<!doctypeX>", doctypeOf("x"), 0}, {"<!doctypes>", doctypeOf("s"), 0},
		{"<!doctype\thtml>", doctypeOf("html"), 0}, {"<!doctype\nhtml>", doctypeOf("html"), 0}, {"<!doctype\fhtml>", doctypeOf("html"), 0}, {"<!doctype\rhtml>", doctypeOf("html"), 0}, {"<!doctype \t\n\f\r html>", doctypeOf("html"), 0}, {"<!doctype\vhtml>", doctypeOf("\vhtml"), 0}, {"<!doctype\u00a0html>", doctypeOf("\u00a0html"), 0},
		{"<!doctype html >", doctypeOf("html"), 0}, {"<!doctype html\t>", doctypeOf("html"), 0}, {"<!doctype html\nx>", doctypeOf("html"), 0}, {"<!doctype html\fx>", doctypeOf("html"), 0}, {"<!doctype html\rx>", doctypeOf("html"), 0}, {"<!doctype html x y>", doctypeOf("html"), 0}, {"<!doctypehtml x>", doctypeOf("html"), 0}, {"<!DOCTYPE HTML PUBLIC \"-//W3C//DTD HTML 4.01//EN\" \"http://x/\">", doctypeOf("html"), 0}, {"<!doctype html \"a>b\">", doctypeOf("html"), 18}, {"<!doctype '>'>", doctypeOf("'"), 12}, {"<!doctype html/>", doctypeOf("html/"), 0}, {"<!doctype html -->", doctypeOf("html"), 0}, {"<!doctype=html>", doctypeOf("=html"), 0}, {"<!doctype [<!ELEMENT a>]>", doctypeOf("[<!element"), 23},
		{"<!doctype>", doctypeOf(""), 0}, {"<!doctype >", doctypeOf(""), 0}, {"<!doctype \n\t>", doctypeOf(""), 0}, {"<!doctype>html>", doctypeOf(""), 10}, {"<!doctype>>", doctypeOf(""), 10},
		{"<!doctype", doctypeOf(""), 0}, {"<!doctype ", doctypeOf(""), 0}, {"<!doctype html", doctypeOf("html"), 0}, {"<!DOCTYPEH", doctypeOf("h"), 0}, {"<!doctype html x", doctypeOf("html"), 0}, {"<!doctype html\n", doctypeOf("html"), 0},
		{"<!doctype ÄB>", doctypeOf("Äb"), 0}, {"<!doctype \xffB\x00>", doctypeOf("\xffb\x00"), 0}, {"<!doctype &amp;>", doctypeOf("&amp;"), 0}, {"<!doctype \u212a>", doctypeOf("\u212a"), 0},
		{"<! doctype html>", commentOf(" doctype html"), 0}, {"<!doctyp>", commentOf("doctyp"), 0}, {"<!doctyp e>", commentOf("doctyp e"), 0}, {"<!-doctype html>", commentOf("-doctype html"), 0}, {"<!doct\x39pe>", commentOf("doct9pe"), 0}, {"<?doctype html>", commentOf("?doctype html"), 0},
	}
	lookEach(t, false, list)
	lookEach(t, true, list)
}

// P9.1: what stands in <![CDATA[ is text, where that counts; nothing is made of its references.
func TestSection(t *testing.T) {
	lookEach(t, true, []one{
		{"<![CDATA[a]]>", textOf("a"), 0}, {"<![CDATA[a]]>b", textOf("a"), 13}, {"<![CDATA[ <p>&amp;</p>\n]]>", textOf(" <p>&amp;</p>\n"), 0}, {"<![CDATA[a>b]]>", textOf("a>b"), 0}, {"<![CDATA[<!--]]>-->", textOf("<!--"), 16}, {"<![CDATA[<![CDATA[]]>]]>", textOf("<![CDATA["), 21},
		{"<![CDATA[]]]>", textOf("]"), 0}, {"<![CDATA[]]]]>", textOf("]]"), 0}, {"<![CDATA[a]]]>", textOf("a]"), 0}, {"<![CDATA[a]]]]]>", textOf("a]]]"), 0}, {"<![CDATA[a]>b]]>", textOf("a]>b"), 0}, {"<![CDATA[a]] >b]]>", textOf("a]] >b"), 0}, {"<![CDATA[]>]]>", textOf("]>"), 0}, {"<![CDATA[>]]>", textOf(">"), 0}, {"<![CDATA[a]]>]]>", textOf("a"), 13},
		{"<![CDATA[a", textOf("a"), 0}, {"<![CDATA[a]", textOf("a]"), 0}, {"<![CDATA[a]]", textOf("a]]"), 0}, {"<![CDATA[]", textOf("]"), 0}, {"<![CDATA[]]", textOf("]]"), 0}, {"<![CDATA[>", textOf(">"), 0}, {"<![CDATA[]>", textOf("]>"), 0}, {"<![CDATA[A\x00\xffÄ]]>", textOf("A\x00\xffÄ"), 0}, {"<![CDATA[ ]]>", textOf(" "), 0},
		{"<![cdata[a]]>", commentOf("[cdata[a]]"), 0}, {"<![CData[a]]>", commentOf("[CData[a]]"), 0}, {"<![CDATA a]]>", commentOf("[CDATA a]]"), 0}, {"<![CDATA", commentOf("[CDATA"), 0}, {"<! [CDATA[a]]>", commentOf(" [CDATA[a]]"), 0}, {"<?[CDATA[a]]>", commentOf("?[CDATA[a]]"), 0},
	})
	lookEach(t, false, []one{
		{"<![CDATA[a]]>", commentOf("[CDATA[a]]"), 0}, {"<![CDATA[a>b]]>", commentOf("[CDATA[a"), 11}, {"<![CDATA[]]>", commentOf("[CDATA[]]"), 0}, {"<![CDATA[", commentOf("[CDATA["), 0}, {"<![CDATA[a", commentOf("[CDATA[a"), 0}, {"<![CDATA[>]]>", commentOf("[CDATA["), 10}, {"<![CDATA[]]]>", commentOf("[CDATA[]]]"), 0},
	})
	for s, n := range map[string]int{"<![CDATA[": 9, "<![CDATA[]]>": 12, "<![CDATA[]]>a": 12, "<![CDATA[]]>]]>": 12, "<![CDATA[]]><![CDATA[a]]>": 12} {
		if token, took, is := Read(s, true); !reflect.DeepEqual(token, api.Token{}) || took != n || is {
			t.Errorf("Read(%q, true) = %+v, %d, %v, though it is passed over", s, token, took, is)
		}
		look(t, s)
	}
}

// P9.1: what counts as a comment, though it begins otherwise.
func TestOdd(t *testing.T) {
	list := []one{
		{"<!a>", commentOf("a"), 0}, {"<!a>b", commentOf("a"), 4}, {"<!>", commentOf(""), 0}, {"<!", commentOf(""), 0}, {"<!a", commentOf("a"), 0}, {"<! a >", commentOf(" a "), 0}, {"<!->", commentOf("-"), 0}, {"<!-", commentOf("-"), 0}, {"<!-a-->", commentOf("-a--"), 0}, {"<!- ->", commentOf("- -"), 0}, {"<! -->", commentOf(" --"), 0}, {"<!-->", commentOf(""), 0}, {"<!>>", commentOf(""), 3}, {"<!!>", commentOf("!"), 0}, {"<!ELEMENT br EMPTY>", commentOf("ELEMENT br EMPTY"), 0}, {"<![if x]>", commentOf("[if x]"), 0}, {"<!<p>", commentOf("<p"), 0}, {"<!&amp;>", commentOf("&amp;"), 0}, {"<!\"a>b\">", commentOf("\"a"), 5}, {"<!\n>", commentOf("\n"), 0},
		{"<?x>", commentOf("?x"), 0}, {"<?x>y", commentOf("?x"), 4}, {"<?>", commentOf("?"), 0}, {"<?", commentOf("?"), 0}, {"<?x", commentOf("?x"), 0}, {"<?xml version=\"1.0\"?>", commentOf("?xml version=\"1.0\"?"), 0}, {"<??>", commentOf("??"), 0}, {"<?php echo \"a>b\" ?>", commentOf("?php echo \"a"), 14}, {"<?--a-->", commentOf("?--a--"), 0}, {"<? x>", commentOf("? x"), 0}, {"<?X\x00\xff>", commentOf("?X\x00\xff"), 0}, {"<?>>", commentOf("?"), 3},
		{"</ a>", commentOf(" a"), 0}, {"</ a>b", commentOf(" a"), 5}, {"</ >", commentOf(" "), 0}, {"</ ", commentOf(" "), 0}, {"</1>", commentOf("1"), 0}, {"</1", commentOf("1"), 0}, {"<//a>", commentOf("/a"), 0}, {"<//", commentOf("/"), 0}, {"<//>", commentOf("/"), 0}, {"</<p>", commentOf("<p"), 0}, {"</<", commentOf("<"), 0}, {"</!--a-->", commentOf("!--a--"), 0}, {"</?a>", commentOf("?a"), 0}, {"</-->", commentOf("--"), 0}, {"</é>", commentOf("é"), 0}, {"</\xff", commentOf("\xff"), 0}, {"</\x00>", commentOf("\x00"), 0}, {"</@>", commentOf("@"), 0}, {"</[>", commentOf("["), 0}, {"</`>", commentOf("`"), 0}, {"</{>", commentOf("{"), 0}, {"</\n>>", commentOf("\n"), 4}, {"</=A>", commentOf("=A"), 0},
	}
	lookEach(t, false, list)
	lookEach(t, true, list)
}

// P9.1: </> is passed over, whatever stands behind it.
func TestPassedOver(t *testing.T) {
	for _, s := range []string{"</>", "</>a", "</>>", "</></>", "</>-->", "</>\x00"} {
		for _, foreign := range []bool{false, true} {
			if token, n, is := Read(s, foreign); !reflect.DeepEqual(token, api.Token{}) || n != 3 || is {
				t.Errorf("Read(%q, %v) = %+v, %d, %v", s, foreign, token, n, is)
			}
		}
		look(t, s)
	}
}

// P9.1: texts that begin with none of these: nothing is taken.
func TestNone(t *testing.T) {
	for _, s := range []string{
		"", "<", "</", "</a", "</a>", "</Z>", "</A", "</z b='>'>", "</p-->", "<a>", "<A", "<>", "< >", "< !--a-->", "<<!--a-->", "< /1>", "<-", "<-->", "<--a-->", "<-!>", "<1>", "<[CDATA[a]]>", "<é>", "<\x00>", "<\n?x>", "<=>",
		"a", "!", "!--a-->", "?x>", "/>", ">", "-->", "--!>", "]]>", "doctype", " <!--a-->", "\n<!doctype html>", "a<?x>", "&lt;!--a-->", "\ufeff<!doctype html>", "\x00<!>", "\xff", "＜!>", "<！>",
	} {
		for _, foreign := range []bool{false, true} {
			if token, n, is := Read(s, foreign); !reflect.DeepEqual(token, api.Token{}) || n != 0 || is {
				t.Errorf("Read(%q, %v) = %+v, %d, %v", s, foreign, token, n, is)
			}
		}
		look(t, s)
	}
}

// P9.1: each cut at each byte.
func TestCut(t *testing.T) {
	for _, s := range []string{
		"<!--a-->b", "<!-- a - b -- c --!d --!>e", "<!---->", "<!--->", "<!-->", "<!----!>", "<!--a----!-->", "<!--<!--a--!--->", "<!--é-->",
		"<!DocType \n Html PUBLIC \"x\" 'y>'>", "<!doctypehtml>", "<!doctype>", "<!doctype \t>a",
		"<![CDATA[a]b]]c]>d]]]]>e", "<![CDATA[]]>", "<![CDATA[]]]>", "<![cdata[a]]>", "<!a b>c", "<!->", "<?xml a='b>'?>", "<?>", "</>a", "</ a>b", "</1 b='>'>", "</a>", "<//>", "<p>",
	} {
		for n := range len(s) + 1 {
			look(t, s[:n])
		}
	}
}

// P9.1: all texts of up to five pieces behind each of the beginnings, held against the model.
func TestModel(t *testing.T) {
	pieces := []string{"-", "--", "!", ">", "]", "[", "a", "A", " ", "<", "/"}
	level := []string{""}
	for range 5 {
		var next []string
		for _, s := range level {
			for _, p := range pieces {
				next = append(next, s+p)
			}
		}
		level = next
		for _, s := range level {
			for _, begin := range []string{"<!--", "<!doctype", "<![CDATA[", "<!", "<?", "</", "<", ""} {
				look(t, begin+s)
			}
		}
	}
}

// P9.1: every byte at every place.
func TestEachByte(t *testing.T) {
	for c := range 256 {
		b := string([]byte{byte(c)})
		for _, s := range []string{
			"%!--a-->", "<%--a-->", "<!%-a-->", "<!-%a-->", "<!--%", "<!--%>", "<!--%a-->", "<!--a%-->", "<!--a-%->", "<!--a--%>", "<!--a--!%>", "<!--a-->%", "<!--a%", "<!--a-%", "<!--a--%", "<!--a--!%", "<!---%>", "<!---%",
			"<!%octype>", "<!d%ctype>", "<!do%type>", "<!doc%ype>", "<!doct%pe>", "<!docty%e>", "<!doctyp%>", "<!doctype%>", "<!doctype%html>", "<!doctype %>", "<!doctype h%l>", "<!doctype html%x>", "<!doctype html>%", "<!doctype%",
			"<!%CDATA[a]]>", "<![%DATA[a]]>", "<![C%ATA[a]]>", "<![CD%TA[a]]>", "<![CDA%A[a]]>", "<![CDAT%[a]]>", "<![CDATA%a]]>", "<![CDATA[%]]>", "<![CDATA[a%]>", "<![CDATA[a]%>", "<![CDATA[a]]%", "<![CDATA[%", "<![CDATA[a]]>%",
			"<!%", "<!%a>", "<!a%b>", "<?%", "<?%a>", "<?a%b>", "</%", "</%>", "</%a>", "</ %>", "<%>", "<%", "%",
		} {
			look(t, strings.ReplaceAll(s, "%", b))
			look(t, strings.ReplaceAll(s, "%", b+b))
		}
	}
}

// P9.2: what stands behind a > that ends it plays no part: every pair of bytes, and longer texts; what is read begins s.
func TestBehind(t *testing.T) {
	for _, s := range []string{"<!-->", "<!--->", "<!---->", "<!--a-->", "<!--a--!>", "<!doctype html>", "<!doctype>", "<![CDATA[a]]>", "<![CDATA[]]>", "<!>", "<!a>", "<?>", "<?a>", "</>", "</ a>"} {
		want, n, is := Read(s, true)
		if n != len(s) {
			t.Fatalf("Read(%q) takes %d", s, n)
		}
		same := func(behind string) {
			if got, m, was := Read(s+behind, true); m != n || was != is || !reflect.DeepEqual(got, want) {
				t.Fatalf("Read(%q and %.9q) = %+v, %d, %v", s, behind, got, m, was)
			}
		}
		for i := range 1 << 16 {
			same(string([]byte{byte(i >> 8), byte(i)}))
		}
		for _, behind := range []string{">", "-->", "--!>", "]]>", "\">", "<!--", "</a>", "<!doctype x>", strings.Repeat(">", 1<<16), strings.Repeat("-", 1<<16), strings.Repeat("]", 1<<16)} {
			same(behind)
		}
	}
}

// P0: great texts end soon, cut and not, of one piece and of many.
func TestGreat(t *testing.T) {
	long := 1<<24 - 20
	for _, begin := range []string{"<!--", "<!doctype", "<!doctype ", "<![CDATA[", "<!", "<?", "</ "} {
		for _, piece := range []string{"a", "-", "--!", "- ", "]", "]]", " ", "<", "\x00", "a "} {
			s := begin + strings.Repeat(piece, long/len(piece))
			token, n, is := Read(s, true)
			if n != len(s) || !is || token.Kind == api.End {
				t.Errorf("a great text of %q and %q takes %d of %d, %v", begin, piece, n, len(s), is)
			}
			if _, n, is = Read(s+"--]]>", true); n != len(s)+5 || !is {
				t.Errorf("a great text of %q and %q, ended, takes %d of %d, %v", begin, piece, n, len(s)+5, is)
			}
		}
	}
	for _, one := range []string{"<!-->", "<!---->", "<!--a--!>", "<!doctype x>", "<![CDATA[a]]>", "<![CDATA[]]>", "<!>", "<?>", "</>", "</ >"} {
		s := strings.Repeat(one, 1<<22/len(one))
		for s != "" {
			_, n, _ := Read(s, true)
			if n != len(one) {
				t.Fatalf("one of many %q takes %d", one, n)
			}
			s = s[n:]
		}
	}
}
