package state

import (
	"math"
	"math/rand"
	"slices"
	"strings"
	"testing"
	"time"

	"hoarding/api"
	"hoarding/kinds"
	"hoarding/sketch"
	"hoarding/stack"
)

// opened is a state in which these elements, as sketch writes them, are open, one in the other; the first one is in the root.
func opened(inside, elems string) *State {
	s := &State{Tree: api.Tree{Nodes: []api.Node{{Kind: api.Root, Up: -1}}}, Inside: inside}
	if elems == "" {
		return s
	}
	s.Tree = sketch.Nodes(strings.ReplaceAll(elems, " ", ";"))
	for i := 1; i < len(s.Tree.Nodes); i++ {
		s.Tree.Nodes[i].Up = i - 1
		s.Tree.Nodes[i-1].Kids = []int{i}
		s.Open = append(s.Open, i)
	}
	return s
}

// copied is s in memory of its own.
func copied(s *State) *State {
	other := *s
	other.Tree, other.Open, other.Active = sketch.Copy(s.Tree), slices.Clone(s.Open), slices.Clone(s.Active)
	return &other
}

// alike tells whether all fields of a and b are the same.
func alike(a, b *State) bool {
	return sketch.Alike(a.Tree, b.Tree) && slices.Equal(a.Open, b.Open) && slices.Equal(a.Active, b.Active) &&
		a.Mode == b.Mode && a.Back == b.Back && a.Lex == b.Lex && a.Form == b.Form && a.Head == b.Head &&
		a.Foster == b.Foster && a.Skip == b.Skip && a.Inside == b.Inside
}

// names is what is open, each element's name.
func names(s *State) string {
	var out []string
	for _, i := range s.Open {
		out = append(out, s.Tree.Nodes[i].Name)
	}
	return strings.Join(out, " ")
}

// P17.2: a document has nothing open, and nothing in it.
func TestNewDocument(t *testing.T) {
	s := New("")
	want := &State{Tree: api.Tree{Nodes: []api.Node{{Kind: api.Root, Up: -1}}}, Mode: api.Initial, Lex: api.Data}
	if !alike(s, want) {
		t.Errorf("a document begins with %+v", s)
	}
}

// P17.2, P17.5: a fragment has an element html, which is open, and the Mode and Lex of its Inside.
func TestNewFragment(t *testing.T) {
	for inside, want := range map[string]struct{ mode, lex int }{
		"select": {mode: api.InSelect}, "tr": {mode: api.InRow}, "tbody": {mode: api.InRows}, "tfoot": {mode: api.InRows}, "thead": {mode: api.InRows},
		"caption": {mode: api.InCaption}, "colgroup": {mode: api.InColumns}, "table": {mode: api.InTable}, "html": {mode: api.BeforeHead}, "body": {mode: api.InBody},
		"td": {mode: api.InBody}, "th": {mode: api.InBody}, "head": {mode: api.InBody}, "div": {mode: api.InBody}, "p": {mode: api.InBody}, "template": {mode: api.InBody}, "frameset": {mode: api.InBody}, "col": {mode: api.InBody}, "option": {mode: api.InBody},
		"textarea": {api.InBody, api.Rcdata}, "title": {api.InBody, api.Rcdata}, "iframe": {api.InBody, api.Rawtext}, "noembed": {api.InBody, api.Rawtext}, "noframes": {api.InBody, api.Rawtext}, "style": {api.InBody, api.Rawtext}, "xmp": {api.InBody, api.Rawtext},
		"script": {api.InBody, api.Script}, "plaintext": {api.InBody, api.Plaintext}, "noscript": {mode: api.InBody},
		// Names are as they are.
		"SELECT": {mode: api.InBody}, "Tr": {mode: api.InBody}, "svg": {mode: api.InBody}, " ": {mode: api.InBody}, "tr table": {mode: api.InBody}, " tr": {mode: api.InBody}, "Script": {mode: api.InBody}, "style script": {mode: api.InBody}, "\xff": {mode: api.InBody}, "\x00": {mode: api.InBody},
	} {
		s := New(inside)
		if len(s.Open) != 1 || len(s.Tree.Nodes) != 2 {
			t.Fatalf("in %q there is %+v", inside, s)
		}
		html := s.Open[0]
		nodes := []api.Node{{Kind: api.Root, Up: -1, Kids: []int{html}}, {Kind: api.Elem, Name: "html"}}
		if !alike(s, &State{Tree: api.Tree{Nodes: nodes}, Open: []int{1}, Mode: want.mode, Lex: want.lex, Inside: inside}) {
			t.Errorf("in %q there is %+v", inside, s)
		}
		if s.Lex != kinds.Lexed(inside) {
			t.Errorf("in %q text is cut in %d", inside, s.Lex)
		}
	}
}

// P17.2: two states share nothing.
func TestNewApart(t *testing.T) {
	for _, inside := range []string{"", "div"} {
		one, other := New(inside), New(inside)
		was := copied(other)
		one.Tree.Nodes[0].Data = "x"
		one.Open = append(one.Open, 7)
		for i := range one.Open {
			one.Open[i] = 9
		}
		one.Active = append(one.Active, 1)
		one.Reset()
		if !alike(other, was) || !alike(New(inside), was) {
			t.Errorf("of %q another one was changed to %+v", inside, other)
		}
	}
}

// P17.3: Adjusted is the top, but where that stands for what is outside, and where nothing is open.
func TestAdjusted(t *testing.T) {
	for _, c := range []struct {
		inside, open string
		space        int
		name         string
	}{
		{"", "", api.Html, ""}, {"div", "", api.Html, ""}, {"svg", "", api.Html, ""},
		{"", "html", api.Html, "html"}, {"", "svg:svg", api.Svg, "svg"}, {"", "math:mi", api.Math, "mi"},
		{"div", "html", api.Html, "div"}, {"div", "svg:svg", api.Html, "div"}, {"div", "math:mi", api.Html, "div"}, {"html", "html", api.Html, "html"}, {"svg", "html", api.Html, "svg"}, {"x y", "html", api.Html, "x y"},
		{"", "html body", api.Html, "body"}, {"", "html svg:title", api.Svg, "title"}, {"", "html svg:svg math:annotation-xml", api.Math, "annotation-xml"},
		{"div", "html p", api.Html, "p"}, {"div", "html svg:svg", api.Svg, "svg"}, {"tr", "html td math:math", api.Math, "math"}, {"tr", "svg:svg td", api.Html, "td"},
	} {
		s := opened(c.inside, c.open)
		was := copied(s)
		n := s.Adjusted()
		if n.Kind != api.Elem || n.Space != c.space || n.Name != c.name || len(n.Attrs) != 0 || n.Data != "" {
			t.Errorf("in %q, with %q open, it is %+v", c.inside, c.open, n)
		}
		if !alike(s, was) {
			t.Errorf("in %q, with %q open, the state came to %+v", c.inside, c.open, s)
		}
	}
}

// P17.3: Adjusted has the attributes of the top, in memory of its own; none, where it stands for what is outside.
func TestAdjustedAttrs(t *testing.T) {
	attrs := []api.Attr{{Name: "encoding", Value: "text/html"}, {Name: "b"}, {Name: "encoding", Value: "2"}}
	for _, c := range []struct {
		inside, open string
		want         []api.Attr
	}{{"", "html", attrs}, {"", "html svg:svg", attrs}, {"div", "html p", attrs}, {"div", "html", nil}, {"div", "svg:svg", nil}} {
		s := opened(c.inside, c.open)
		for i := range s.Tree.Nodes {
			s.Tree.Nodes[i].Attrs = slices.Clone(attrs)
		}
		was := copied(s)
		n := s.Adjusted()
		if !slices.Equal(n.Attrs, c.want) {
			t.Errorf("in %q, with %q open, it has %v", c.inside, c.open, n.Attrs)
		}
		for i := range n.Attrs {
			n.Attrs[i] = api.Attr{Name: "new"}
		}
		_ = append(n.Attrs, api.Attr{})
		for i := range n.Kids {
			n.Kids[i] = 99
		}
		if !alike(s, was) {
			t.Errorf("in %q, with %q open, what is told is the tree's own", c.inside, c.open)
		}
	}
}

// lists are all that are made of up to n of the words.
func lists(words []string, n int) []string {
	all := []string{""}
	for from := 0; n > 0; n-- {
		to := len(all)
		for _, list := range all[from:to] {
			for _, word := range words {
				all = append(all, strings.TrimSpace(list+" "+word))
			}
		}
		from = to
	}
	return all
}

// P17.3: Is, Has, Pop, Implied, To are those of the open elements, and nothing but Open comes to be another one.
func TestOpen(t *testing.T) {
	changing := []struct {
		name string
		do   func(s *State, names string)
		want func(x api.Tree, open []int, names string) []int
	}{
		{"Pop", (*State).Pop, stack.Pop}, {"Implied", (*State).Implied, stack.Implied}, {"To", (*State).To, stack.To},
		// P17.3: Paragraph is Implied of p, then Pop of p.
		{"Paragraph", func(s *State, _ string) { s.Paragraph() }, func(x api.Tree, open []int, _ string) []int {
			return stack.Pop(x, stack.Implied(x, open, "p"), "p")
		}},
	}
	for _, list := range lists([]string{"html", "p", "li", "td", "button", "svg:p", "math:mi"}, 4) {
		for _, inside := range []string{"", "p"} {
			for _, asked := range []string{"", "p", "li", "td html", "mi", "b"} {
				s := opened(inside, list)
				s.Active, s.Mode, s.Back, s.Lex, s.Form, s.Head, s.Foster, s.Skip = []int{-1, 1}, 3, 4, 1, 1, 1, true, true
				was := copied(s)
				if got := s.Is(asked); got != stack.Is(s.Tree, stack.Top(s.Open), asked) {
					t.Fatalf("the top of %q Is %q: %v", list, asked, got)
				}
				for scope := -1; scope <= 5; scope++ {
					if got := s.Has(asked, scope); got != stack.Has(s.Tree, s.Open, asked, scope) {
						t.Fatalf("%q Has %q in %d: %v", list, asked, scope, got)
					}
				}
				if !alike(s, was) {
					t.Fatalf("asked for %q, %q came to %+v", asked, list, s)
				}
				for _, c := range changing {
					one, want := copied(s), copied(s)
					c.do(one, asked)
					if want.Open = c.want(want.Tree, want.Open, asked); !alike(one, want) {
						t.Fatalf("%s(%q) of %q leaves %q, not %q: %+v", c.name, asked, list, names(one), names(want), one)
					}
				}
			}
		}
	}
}

// P17.3: some by hand: what they leave, and what is told of what is open.
func TestOpenByHand(t *testing.T) {
	for _, c := range []struct {
		open string
		do   func(s *State)
		want string
	}{
		{"", func(s *State) { s.Pop("p"); s.Implied(""); s.To("p"); s.Paragraph() }, ""},
		{"p", func(s *State) { s.Pop("p"); s.Implied(""); s.To("b"); s.Paragraph() }, "p"},
		{"html", (*State).Paragraph, "html"},
		{"html p", (*State).Paragraph, "html"},
		{"html p li", (*State).Paragraph, "html"},
		{"html p b", (*State).Paragraph, "html"},
		{"html p b li p", (*State).Paragraph, "html p b li"},
		{"html div b", (*State).Paragraph, "html"},
		{"html div li p", (*State).Paragraph, "html div li"},
		{"html div svg:p", (*State).Paragraph, "html"},
		{"html p svg:p", (*State).Paragraph, "html"},
		{"html ul li b", func(s *State) { s.Pop("li") }, "html ul"},
		{"html ul li p", func(s *State) { s.Implied("li") }, "html ul li"},
		{"html ul li p", func(s *State) { s.Implied("") }, "html ul"},
		{"html table tr td", func(s *State) { s.To("table html") }, "html table"},
	} {
		s := opened("", c.open)
		c.do(s)
		if got := names(s); got != c.want {
			t.Errorf("of %q stay open %q, not %q", c.open, got, c.want)
		}
	}
	s := opened("", "html table tr td p")
	if !s.Is("p") || !s.Is("td p") || s.Is("td") || s.Is("") || !s.Has("p", api.Button) || s.Has("tr", api.Default) || !s.Has("tr", api.Table) {
		t.Error("what is open is told wrong")
	}
	if s := New(""); s.Is("p") || s.Is("") || s.Has("p html", api.Default) || s.Has("", api.Default) {
		t.Error("something is open in a document that begins")
	}
}

// P17.3: a list that was open ahead stays as it was, whatever comes then.
func TestOpenApart(t *testing.T) {
	for at, do := range []func(s *State){func(s *State) { s.Pop("li") }, func(s *State) { s.Implied("") }, func(s *State) { s.To("p") }, func(s *State) { s.To("li") }, (*State).Paragraph} {
		s := opened("", "html p li")
		was := s.Open
		do(s)
		_ = append(s.Open, 9)
		s.Open[0] = 8
		if !slices.Equal(was, []int{1, 2, 3}) {
			t.Errorf("%d: what was open came to %v", at, was)
		}
	}
}

// modelReset is the Mode by the chapter's words.
func modelReset(s *State) int {
	fragment := s.Inside != ""
	for k := len(s.Open) - 1; k >= 0; k-- {
		n := s.Tree.Nodes[s.Open[k]]
		last := false
		if k == 0 && fragment {
			n, last = api.Node{Kind: api.Elem, Name: s.Inside}, true
		}
		if n.Kind != api.Elem || n.Space != api.Html {
			if last {
				return api.InBody
			}
			continue
		}
		switch {
		case n.Name == "select":
			if !last {
				for j := 1; j < k; j++ {
					if m := s.Tree.Nodes[s.Open[j]]; m.Kind == api.Elem && m.Space == api.Html && m.Name == "table" {
						return api.InSelectTab
					}
				}
			}
			return api.InSelect
		case (n.Name == "td" || n.Name == "th") && !last:
			return api.InCell
		case n.Name == "tr":
			return api.InRow
		case n.Name == "tbody" || n.Name == "tfoot" || n.Name == "thead":
			return api.InRows
		case n.Name == "caption":
			return api.InCaption
		case n.Name == "colgroup":
			return api.InColumns
		case n.Name == "table":
			return api.InTable
		case n.Name == "head" && !last:
			return api.InHead
		case n.Name == "body":
			return api.InBody
		case n.Name == "html" && s.Head == 0:
			return api.BeforeHead
		case n.Name == "html":
			return api.AfterHead
		case last:
			return api.InBody
		}
	}
	return api.InBody
}

// P17.4: each element that tells a mode, as the first one of a document, of a fragment, and further in.
func TestReset(t *testing.T) {
	modes := map[string]int{
		"select": api.InSelect, "td": api.InCell, "th": api.InCell, "tr": api.InRow, "tbody": api.InRows, "tfoot": api.InRows, "thead": api.InRows,
		"caption": api.InCaption, "colgroup": api.InColumns, "table": api.InTable, "head": api.InHead, "body": api.InBody, "html": api.BeforeHead,
	}
	reset := func(inside, open string, head, want int) {
		t.Helper()
		for before := range api.AfterAll + 1 {
			s := opened(inside, open)
			s.Head, s.Mode, s.Back, s.Lex = head, before, 3, 1
			now := copied(s)
			now.Mode = want
			if s.Reset(); !alike(s, now) {
				t.Errorf("in %q, with %q open, behind %d, it is %d, not %d: %+v", inside, open, before, s.Mode, want, s)
			}
		}
	}
	for name, mode := range modes {
		last := mode
		if name == "td" || name == "th" || name == "head" {
			last = api.InBody
		}
		for _, head := range []int{0, 1, 7} {
			if name == "html" && head != 0 {
				mode, last = api.AfterHead, api.AfterHead
			}
			reset("", name, head, mode)
			reset("", name+" p svg:td", head, mode)
			reset("", "p "+name+" option", head, mode)
			reset("div", "html "+name, head, mode)
			reset("td", "tr "+name+" b i", head, mode)
			reset(name, "html", head, last)
			reset(name, "svg:select", head, last)
			reset(name, "caption p math:tr svg:select", head, last)
			// What is of another namespace tells none.
			reset("", "svg:"+name, head, api.InBody)
			reset("", "caption math:"+name, head, api.InCaption)
			reset("div", "html svg:"+name, head, api.InBody)
		}
	}
	for _, open := range []string{"", "p", "p b", "svg:svg", "frameset", "template option", "col"} {
		reset("", open, 0, api.InBody)
		reset("div", open, 0, api.InBody)
	}
	reset("tr", "", 0, api.InBody)
}

// P17.4: a select is within a table, if one of Html is open ahead of it, and that is not the first one.
func TestResetSelect(t *testing.T) {
	for _, c := range []struct {
		inside, open string
		want         int
	}{
		{"", "html body select", api.InSelect}, {"", "html table select", api.InSelectTab}, {"", "html table tr td p select option", api.InSelectTab},
		{"", "table select", api.InSelect}, {"", "table p select", api.InSelect}, {"", "table table select", api.InSelectTab},
		{"", "html select table", api.InTable}, {"", "html select table select", api.InSelectTab}, {"", "html select svg:table", api.InSelect},
		{"", "html svg:table select", api.InSelect}, {"", "html math:table td select", api.InSelect}, {"", "html #table select", api.InSelect},
		{"", "select", api.InSelect}, {"", "html select", api.InSelect},
		{"table", "html select", api.InSelect}, {"table", "table select", api.InSelect}, {"div", "html table select", api.InSelectTab}, {"div", "html select", api.InSelect},
		{"select", "html", api.InSelect}, {"select", "table", api.InSelect}, {"select", "html table", api.InTable}, {"select", "html p", api.InSelect}, {"select", "html #table", api.InSelect},
	} {
		s := opened(c.inside, c.open)
		if s.Reset(); s.Mode != c.want {
			t.Errorf("in %q, with %q open, it is %d, not %d", c.inside, c.open, s.Mode, c.want)
		}
	}
}

// P17.4: all lists of up to three, and many longer ones, by the chapter's words.
func TestResetModel(t *testing.T) {
	words := []string{"select", "td", "th", "tr", "tbody", "tfoot", "thead", "caption", "colgroup", "table", "head", "body", "html", "p", "svg:td", "svg:table", "math:select", "svg:p", "#tr", "#table"}
	look := func(inside, open string, head int) {
		t.Helper()
		s := opened(inside, open)
		s.Head = head
		if s.Reset(); s.Mode != modelReset(s) {
			t.Fatalf("in %q, with %q open, it is %d, not %d", inside, open, s.Mode, modelReset(s))
		}
	}
	insides := []string{"", "div", "td", "table", "select", "head", "html", "tr", "svg"}
	for _, open := range lists(words, 3) {
		for at, inside := range insides {
			look(inside, open, at%2)
			look(inside, open, 1-at%2)
		}
	}
	luck := rand.New(rand.NewSource(17))
	for range 20000 {
		open := make([]string, 3+luck.Intn(8))
		for i := range open {
			open[i] = "p"
			if luck.Intn(2) == 0 {
				open[i] = words[luck.Intn(len(words))]
			}
		}
		look(insides[luck.Intn(len(insides))], strings.Join(open, " "), luck.Intn(2))
	}
}

// Numbers that are no nodes count as elements without a name.
func TestNoNodes(t *testing.T) {
	for _, i := range []int{-1, -2, 3, 99, math.MaxInt, math.MinInt} {
		s := opened("", "html tr")
		s.Open = append(s.Open, i)
		n := s.Adjusted()
		if n.Kind != api.Elem || n.Space != api.Html || n.Name != "" || s.Is("tr") || !s.Has("tr", api.Default) {
			t.Errorf("with %d open the top is %+v", i, n)
		}
		if s.Reset(); s.Mode != api.InRow {
			t.Errorf("with %d open it is %d", i, s.Mode)
		}
		if s.Pop("tr"); names(s) != "html" {
			t.Errorf("without %d are open %v", i, s.Open)
		}
	}
}

// P0: a great many that are open are gone through once.
func TestGreat(t *testing.T) {
	began := time.Now()
	s := opened("div", strings.TrimSpace(strings.Repeat("p ", 1<<18)))
	s.Tree.Nodes[len(s.Tree.Nodes)-1].Name = "select"
	s.Reset()
	if s.Mode != api.InSelect || s.Has("b", api.Button) || !s.Has("p", api.Item) || s.Adjusted().Name != "select" {
		t.Errorf("it is %d", s.Mode)
	}
	if s.Pop("select"); len(s.Open) != 1<<18-1 {
		t.Errorf("%d stay open", len(s.Open))
	}
	if s.Paragraph(); len(s.Open) != 1<<18-2 {
		t.Errorf("%d stay open", len(s.Open))
	}
	if s.To("b"); len(s.Open) != 1 {
		t.Errorf("%d stay open", len(s.Open))
	}
	if took := time.Since(began); took > 20*time.Second {
		t.Errorf("it took %v", took)
	}
}
