package place

import (
	"math"
	"math/rand"
	"slices"
	"strconv"
	"strings"
	"testing"
	"time"

	"hoarding/api"
	"hoarding/sketch"
	"hoarding/state"
	"hoarding/tree"
)

// within is a state in which these elements, as sketch writes them, are open, one in the other; the first one is in the root.
func within(inside, elems string) *state.State {
	s := state.New("")
	s.Inside = inside
	if elems == "" {
		return s
	}
	s.Tree = sketch.Nodes(strings.ReplaceAll(elems, " ", ";"))
	for i := 1; i < len(s.Tree.Nodes); i++ {
		tree.Put(&s.Tree, i-1, 0, i)
		s.Open = append(s.Open, i)
	}
	return s
}

// copied is s in memory of its own.
func copied(s *state.State) *state.State {
	other := *s
	other.Tree, other.Open, other.Active = sketch.Copy(s.Tree), slices.Clone(s.Open), slices.Clone(s.Active)
	return &other
}

// alike tells whether all fields of a and b are the same.
func alike(a, b *state.State) bool {
	return sketch.Alike(a.Tree, b.Tree) && slices.Equal(a.Open, b.Open) && slices.Equal(a.Active, b.Active) &&
		a.Mode == b.Mode && a.Back == b.Back && a.Lex == b.Lex && a.Form == b.Form && a.Head == b.Head &&
		a.Foster == b.Foster && a.Skip == b.Skip && a.Inside == b.Inside
}

// written is what is in node i: elements with what is in them, text as it is, remarks with a ! around.
func written(t api.Tree, i int) string {
	out := ""
	for _, kid := range t.Nodes[i].Kids {
		switch n := t.Nodes[kid]; n.Kind {
		case api.Elem:
			out += n.Name + "(" + written(t, kid) + ")"
		case api.Chars:
			out += "'" + n.Data + "'"
		case api.Remark:
			out += "!" + n.Data + "!"
		}
	}
	return out
}

// add puts a node of this name in front of all Kids of up, and tells its number.
func add(s *state.State, up int, name string) int {
	i := tree.Add(&s.Tree, api.Node{Kind: api.Elem, Name: name})
	tree.Put(&s.Tree, up, 0, i)
	return i
}

// modelWhere is the place by the chapter's words.
func modelWhere(s *state.State, target int) (int, int) {
	html := func(i int, names string) bool {
		return i >= 0 && i < len(s.Tree.Nodes) && s.Tree.Nodes[i].Kind == api.Elem && s.Tree.Nodes[i].Space == api.Html && slices.Contains(strings.Fields(names), s.Tree.Nodes[i].Name)
	}
	behind := func(i int) (int, int) { return i, len(s.Tree.Nodes[i].Kids) }
	if s.Foster && html(target, "table tbody tfoot thead tr") {
		for at := len(s.Open) - 1; at >= 0; at-- {
			if !html(s.Open[at], "table") {
				continue
			}
			if up := s.Tree.Nodes[s.Open[at]].Up; up >= 0 {
				return up, slices.Index(s.Tree.Nodes[up].Kids, s.Open[at])
			}
			if at > 0 {
				return behind(s.Open[at-1])
			}
			return behind(s.Open[0])
		}
		return behind(s.Open[0])
	}
	if target < 0 || target >= len(s.Tree.Nodes) {
		return behind(0)
	}
	return behind(target)
}

// modelPut is s with a node at that place, by the chapter's words.
func modelPut(s *state.State, up, at int, n api.Node) int {
	n.Up = up
	n.Attrs = slices.Clone(n.Attrs)
	s.Tree.Nodes = append(s.Tree.Nodes, n)
	i := len(s.Tree.Nodes) - 1
	s.Tree.Nodes[up].Kids = slices.Insert(s.Tree.Nodes[up].Kids, at, i)
	return i
}

func modelTop(s *state.State) int {
	if len(s.Open) == 0 {
		return -1
	}
	return s.Open[len(s.Open)-1]
}

func modelElem(s *state.State, token api.Token, space int) int {
	up, at := modelWhere(s, modelTop(s))
	i := modelPut(s, up, at, api.Node{Kind: api.Elem, Space: space, Name: token.Name, Attrs: token.Attrs})
	s.Open = append(s.Open, i)
	return i
}

func modelChars(s *state.State, text string) {
	up, at := modelWhere(s, modelTop(s))
	if up == 0 || text == "" {
		return
	}
	if at > 0 && s.Tree.Nodes[s.Tree.Nodes[up].Kids[at-1]].Kind == api.Chars {
		s.Tree.Nodes[s.Tree.Nodes[up].Kids[at-1]].Data += text
		return
	}
	modelPut(s, up, at, api.Node{Kind: api.Chars, Data: text})
}

func modelNote(s *state.State, data string, up int) {
	if up < 0 || up >= len(s.Tree.Nodes) {
		up, at := modelWhere(s, modelTop(s))
		modelPut(s, up, at, api.Node{Kind: api.Remark, Data: data})
		return
	}
	modelPut(s, up, len(s.Tree.Nodes[up].Kids), api.Node{Kind: api.Remark, Data: data})
}

// P18.1: without Foster it is behind all Kids of the target, or of the root; and nothing is changed.
func TestWhere(t *testing.T) {
	s := within("", "html body table tbody tr td svg:table")
	body, table := s.Open[1], s.Open[2]
	more := add(s, body, "p")
	for _, foster := range []bool{false, true} {
		s.Foster = foster
		was := copied(s)
		for target, want := range map[int][2]int{
			0: {0, 1}, s.Open[0]: {s.Open[0], 1}, body: {body, 2}, s.Open[5]: {s.Open[5], 1}, s.Open[6]: {s.Open[6], 0}, more: {more, 0},
			-1: {0, 1}, -2: {0, 1}, len(s.Tree.Nodes): {0, 1}, math.MaxInt: {0, 1}, math.MinInt: {0, 1},
		} {
			if up, at := Where(s, target); [2]int{up, at} != want {
				t.Errorf("of %d, Foster %v, it is %d at %d, not %v", target, foster, up, at, want)
			}
		}
		for _, target := range []int{table, s.Open[3], s.Open[4]} {
			want := [2]int{target, 1}
			if foster {
				want = [2]int{body, 1}
			}
			if up, at := Where(s, target); [2]int{up, at} != want {
				t.Errorf("of %d, Foster %v, it is %d at %d, not %v", target, foster, up, at, want)
			}
		}
		if !alike(s, was) {
			t.Errorf("it was changed to %+v", s)
		}
	}
}

// P18.1: what goes out of a table, by the name of the target, its namespace and kind, and by what is open.
func TestWhereFoster(t *testing.T) {
	for _, c := range []struct {
		open   string
		target int // its place among the open ones, or -1: a node of its own, a tr
		up, at int // up is a place among the open ones, too
	}{
		{"html body table", 2, 1, 0}, {"html body table tbody", 3, 1, 0}, {"html body table tfoot", 3, 1, 0}, {"html body table thead", 3, 1, 0}, {"html body table tr", 3, 1, 0},
		{"html body table td", 3, 3, 0}, {"html body table caption", 3, 3, 0}, {"html body table colgroup", 3, 3, 0}, {"html body table b", 3, 3, 0}, {"html body table b", 1, 1, 1},
		{"html body table svg:tr", 3, 3, 0}, {"html body table math:table", 3, 3, 0}, {"html body table #tr", 3, 3, 0}, {"html body table TR", 3, 3, 0},
		// Of several it is the last one; the target may be another one.
		{"html table tr td table tr", 5, 3, 0}, {"html table tr td table tr", 2, 3, 0}, {"html table tr td table tr", 1, 3, 0}, {"html table tr td table td", 2, 3, 0},
		{"html table table table", 3, 2, 0},
		// Only one of Html counts.
		{"html table td svg:table tr", 4, 0, 0}, {"html table td #table tr", 4, 0, 0},
		// Without one it is the first open one.
		{"html body tr", 2, 0, 1}, {"html body tbody tr", 3, 0, 1}, {"tr", 0, 0, 0}, {"html svg:table tr", 2, 0, 1}, {"html body", -1, 0, 1}, {"html body p table", -1, 2, 0},
	} {
		s := within("", c.open)
		s.Foster = true
		target := add(s, 0, "tr")
		if c.target >= 0 {
			target = s.Open[c.target]
		}
		was := copied(s)
		up, at := Where(s, target)
		if up != s.Open[c.up] || at != c.at {
			t.Errorf("with %q open, of %d it is %d at %d, not %d at %d", c.open, c.target, up, at, s.Open[c.up], c.at)
		}
		if !alike(s, was) {
			t.Errorf("with %q open it was changed to %+v", c.open, s)
		}
	}
}

// P18.1: the place of a table among others; one that is in nothing; one that is open, but elsewhere; one in the root.
func TestWhereTable(t *testing.T) {
	s := within("", "html body p table tr")
	s.Foster = true
	html, body, p, table, tr := s.Open[0], s.Open[1], s.Open[2], s.Open[3], s.Open[4]
	where := func(wantUp, wantAt int) {
		t.Helper()
		for _, target := range []int{table, tr} {
			if up, at := Where(s, target); up != wantUp || at != wantAt {
				t.Errorf("of %d it is %d at %d, not %d at %d", target, up, at, wantUp, wantAt)
			}
		}
	}
	add(s, p, "a")
	add(s, p, "b")
	where(p, 2)
	tree.Put(&s.Tree, p, 9, add(s, p, "c"))
	where(p, 2)
	tree.Put(&s.Tree, html, 0, table)
	where(html, 0)
	tree.Put(&s.Tree, 0, 9, table)
	where(0, 1)
	tree.Cut(&s.Tree, table)
	where(p, 3)
	s.Open = []int{html, table, body, tr}
	where(html, 1)
	s.Open = []int{html, body, table}
	where(body, 1)
	// Of a table that is the first open one there is none ahead.
	s.Open = []int{table, tr}
	where(table, 1)
	s.Open = []int{html, table, body, table}
	where(body, 1)
}

// P0: with Foster and nothing open it ends, too.
func TestWhereNothing(t *testing.T) {
	s := within("", "table")
	s.Open, s.Foster = nil, true
	if up, at := Where(s, 1); up != 0 || at != 1 {
		t.Errorf("it is %d at %d", up, at)
	}
}

// P18.2: an element comes to what is open, and is open.
func TestElem(t *testing.T) {
	attrs := []api.Attr{{Name: "a", Value: "1"}, {Name: "b"}, {Name: "a", Value: "2"}}
	for space := api.Html; space <= api.Math; space++ {
		for _, a := range [][]api.Attr{nil, attrs} {
			for _, open := range []string{"", "html", "html body p"} {
				s := within("", open)
				was := copied(s)
				token := api.Token{Kind: api.Start, Name: "x", Attrs: slices.Clone(a), Self: true, Data: "no"}
				i := Elem(s, token, space)
				if i != len(was.Tree.Nodes) || i >= len(s.Tree.Nodes) {
					t.Fatalf("in %q it is %d of %d", open, i, len(s.Tree.Nodes))
				}
				want := api.Node{Kind: api.Elem, Space: space, Name: "x", Attrs: a}
				if n := modelPut(was, max(modelTop(was), 0), len(was.Tree.Nodes[max(modelTop(was), 0)].Kids), want); n != i {
					t.Errorf("in %q it is %d, not %d", open, i, n)
				}
				was.Open = append(was.Open, i)
				if !alike(s, was) {
					t.Errorf("in %q it comes to %+v, not %+v", open, s, was)
				}
				if !slices.Equal(token.Attrs, a) {
					t.Errorf("the token came to %+v", token)
				}
			}
		}
	}
}

// P18.2: of a token the Name and the Attrs count alone, whatever Kind it is, and whatever namespace it is told.
func TestElemOdd(t *testing.T) {
	for kind := -1; kind <= 7; kind++ {
		s := within("", "html")
		i := Elem(s, api.Token{Kind: kind, Data: "no"}, kind)
		if n := s.Tree.Nodes[i]; n.Kind != api.Elem || n.Name != "" || n.Data != "" || n.Space != kind || len(n.Attrs) != 0 || n.Up != s.Open[0] || s.Open[1] != i {
			t.Errorf("of %d comes %+v", kind, n)
		}
	}
}

// P18.2: elements go out of a table, too, and are the top; then what is in them stays in them.
func TestElemFoster(t *testing.T) {
	s := within("", "html body table tr")
	s.Foster = true
	i := Elem(s, api.Token{Name: "b"}, api.Html)
	Chars(s, "x")
	Elem(s, api.Token{Name: "tr"}, api.Svg)
	Chars(s, "y")
	if got := written(s.Tree, 0); got != "html(body(b('x'tr('y'))table(tr())))" || s.Open[4] != i || len(s.Open) != 6 {
		t.Errorf("it is %s, with %v open", got, s.Open)
	}
	s.Open = s.Open[:4]
	Elem(s, api.Token{Name: "i"}, api.Html)
	s.Open = s.Open[:4]
	s.Foster = false
	Elem(s, api.Token{Name: "td"}, api.Html)
	if got := written(s.Tree, 0); got != "html(body(b('x'tr('y'))i()table(tr(td()))))" {
		t.Errorf("it is %s", got)
	}
}

// P18.2: text comes behind text, into one node; to what is open; not into the root; none, if it is empty.
func TestChars(t *testing.T) {
	s := within("", "html body")
	add(s, s.Open[1], "p")
	look := func(want string) {
		t.Helper()
		if got := written(s.Tree, 0); got != want {
			t.Errorf("it is %s, not %s", got, want)
		}
	}
	Chars(s, "")
	look("html(body(p()))")
	Chars(s, "a")
	look("html(body(p()'a'))")
	Chars(s, "b")
	Chars(s, "")
	Chars(s, "\x00\xff \n")
	look("html(body(p()'ab\x00\xff \n'))")
	Elem(s, api.Token{Name: "br"}, api.Html)
	s.Open = s.Open[:2]
	Chars(s, "c")
	look("html(body(p()'ab\x00\xff \n'br()'c'))")
	Note(s, "n", -1)
	Chars(s, "d")
	look("html(body(p()'ab\x00\xff \n'br()'c'!n!'d'))")
	n := s.Tree.Nodes[len(s.Tree.Nodes)-1]
	if n.Kind != api.Chars || n.Space != 0 || n.Name != "" || len(n.Attrs) != 0 || len(n.Kids) != 0 || n.Up != s.Open[1] {
		t.Errorf("the text is %+v", n)
	}
	for _, inside := range []string{"", "div"} {
		s = within(inside, "")
		was := copied(s)
		Chars(s, "a")
		Chars(s, "")
		if !alike(s, was) {
			t.Errorf("the root came to %+v", s)
		}
	}
}

// P18.2: text ahead of a table comes behind the text that is there; none comes ahead of a table in the root, or if the table stands for nothing.
func TestCharsFoster(t *testing.T) {
	s := within("", "html body table tr")
	body := s.Open[1]
	s.Foster = true
	look := func(want string) {
		t.Helper()
		if got := written(s.Tree, 0); got != want {
			t.Errorf("it is %s, not %s", got, want)
		}
	}
	Chars(s, "a")
	Chars(s, "b")
	look("html(body('ab'table(tr())))")
	Elem(s, api.Token{Name: "i"}, api.Html)
	s.Open = s.Open[:4]
	Chars(s, "c")
	Chars(s, "")
	look("html(body('ab'i()'c'table(tr())))")
	Note(s, "n", body)
	Note(s, "m", -1)
	Chars(s, "d")
	look("html(body('ab'i()'c'!m!'d'table(tr())!n!))")
	// What stands behind the table is no neighbour of what comes ahead of it.
	tree.Put(&s.Tree, body, 9, s.Tree.Nodes[body].Kids[0])
	Chars(s, "e")
	s.Foster = false
	Chars(s, "f")
	look("html(body(i()'c'!m!'de'table(tr('f'))!n!'ab'))")
	s.Foster = true
	tree.Put(&s.Tree, 0, 9, s.Open[2])
	was := copied(s)
	if Chars(s, "g"); !alike(s, was) {
		t.Errorf("text came ahead of a table in the root: %s", written(s.Tree, 0))
	}
	tree.Cut(&s.Tree, s.Open[2])
	Chars(s, "h")
	look("html(body(i()'c'!m!'de'!n!'abh'))")
}

// P18.2: a remark comes behind all Kids of what is told, or to what is open.
func TestNote(t *testing.T) {
	s := within("", "html body table tr")
	look := func(want string) {
		t.Helper()
		if got := written(s.Tree, 0); got != want {
			t.Errorf("it is %s, not %s", got, want)
		}
	}
	Note(s, "", 0)
	look("html(body(table(tr())))!!")
	Note(s, "a", s.Open[0])
	Note(s, "b", s.Open[1])
	look("html(body(table(tr())!b!)!a!)!!")
	for _, up := range []int{-1, -2, 99, math.MaxInt, math.MinInt, 1 << 20} {
		Note(s, "c", up)
	}
	look("html(body(table(tr(!c!!c!!c!!c!!c!!c!))!b!)!a!)!!")
	s.Foster = true
	Note(s, "d", -1)
	Note(s, "e", s.Open[2])
	look("html(body(!d!table(tr(!c!!c!!c!!c!!c!!c!)!e!)!b!)!a!)!!")
	n := s.Tree.Nodes[len(s.Tree.Nodes)-1]
	if n.Kind != api.Remark || n.Space != 0 || n.Name != "" || len(n.Attrs) != 0 || len(n.Kids) != 0 || n.Up != s.Open[2] || len(s.Open) != 4 {
		t.Errorf("the remark is %+v", n)
	}
	s = within("", "")
	Note(s, "f", -1)
	Note(s, "g", 0)
	Note(s, "h", 3)
	if got := written(s.Tree, 0); got != "!f!!g!!h!" || len(s.Open) != 0 {
		t.Errorf("it is %s", got)
	}
}

// apart tells whether no two Chars that came by Chars stand side by side, and none in the root.
func apart(x api.Tree) bool {
	for i, n := range x.Nodes {
		for at, kid := range n.Kids {
			if x.Nodes[kid].Kind == api.Chars && (i == 0 || at > 0 && x.Nodes[n.Kids[at-1]].Kind == api.Chars) {
				return false
			}
		}
	}
	return true
}

// step does one thing to s, and to its model, by three numbers, and tells it.
func step(s, model *state.State, what, one, other int) string {
	names := []string{"table", "tr", "tbody", "td", "b", "thead", "tfoot", "p"}
	name := names[one%len(names)]
	switch what {
	case 0, 1, 2:
		token := api.Token{Name: name, Attrs: []api.Attr{{Name: "n", Value: strconv.Itoa(one)}}[:one%2]}
		space := max(other%6-3, 0)
		if i, want := Elem(s, token, space), modelElem(model, token, space); i != want {
			return "Elem told " + strconv.Itoa(i)
		}
		return "Elem " + name
	case 3, 4:
		text := strings.Repeat("t", one%3)
		Chars(s, text)
		modelChars(model, text)
		return "Chars " + text
	case 5:
		up := other%(len(s.Tree.Nodes)+2) - 1
		Note(s, name, up)
		modelNote(model, name, up)
		return "Note " + strconv.Itoa(up)
	case 6:
		s.Foster, model.Foster = one%2 == 0 && len(s.Open) > 0, one%2 == 0 && len(s.Open) > 0
		return "Foster"
	}
	if len(s.Open) > 1 {
		s.Pop(name)
		model.Open = slices.Clone(s.Open)
	}
	return "Pop " + name
}

// P18.1, P18.2, P18.3: many calls, one behind the other, by the chapter's words; no two Chars stand side by side.
func TestModel(t *testing.T) {
	luck := rand.New(rand.NewSource(18))
	for range 4000 {
		inside := []string{"", "div"}[luck.Intn(2)]
		s := state.New(inside)
		model := copied(s)
		var done []string
		for range 3 + luck.Intn(40) {
			done = append(done, step(s, model, luck.Intn(8), luck.Intn(64), luck.Intn(1000)))
			if !alike(s, model) || !apart(s.Tree) {
				t.Fatalf("behind %v it is %+v, not %+v", done, s, model)
			}
			for i := range s.Tree.Nodes {
				up, at := Where(s, i)
				if wantUp, wantAt := modelWhere(s, i); up != wantUp || at != wantAt {
					t.Fatalf("behind %v, of %d it is %d at %d, not %d at %d", done, i, up, at, wantUp, wantAt)
				}
			}
		}
	}
}

// P18.2: what is open has no room behind it, when one more is: another list that goes on in this room stays as it is.
func TestOpenApart(t *testing.T) {
	s := within("", "html body p b")
	all := []int{s.Open[0], s.Open[1], 77, 78}
	s.Open = all[:2]
	i := Elem(s, api.Token{Name: "i"}, api.Html)
	if !slices.Equal(all[2:], []int{77, 78}) || !slices.Equal(s.Open, []int{all[0], all[1], i}) {
		t.Errorf("the room came to %v, what is open to %v", all, s.Open)
	}
	s.Open[0] = 5
	if all[0] == 5 {
		t.Error("what is open has the old memory")
	}
	// Two that go on from one list.
	s = within("", "html")
	Elem(s, api.Token{Name: "a"}, api.Html)
	Elem(s, api.Token{Name: "b"}, api.Html)
	was := s.Open
	one := Elem(s, api.Token{Name: "c"}, api.Html)
	first := s.Open
	s.Open = was
	Elem(s, api.Token{Name: "d"}, api.Html)
	if first[3] != one || len(was) != 3 {
		t.Errorf("the first one came to %v", first)
	}
}

// P0: attributes and Kids are not shared, and what lies behind their lists plays no part.
func TestKeepsApart(t *testing.T) {
	s := within("", "html body")
	memory := []api.Attr{{Name: "a"}, {Name: "behind"}}
	token := api.Token{Name: "p", Attrs: memory[:1]}
	i := Elem(s, token, api.Html)
	s.Tree.Nodes[i].Attrs[0].Value = "new"
	s.Tree.Nodes[i].Attrs = append(s.Tree.Nodes[i].Attrs, api.Attr{Name: "c"})
	if memory[0] != (api.Attr{Name: "a"}) || memory[1].Name != "behind" {
		t.Errorf("the token's attributes came to %v", memory)
	}
	kids := []int{i, 99}
	s.Tree.Nodes[s.Open[1]].Kids = kids[:1]
	s.Open = s.Open[:2]
	Chars(s, "a")
	Note(s, "b", s.Open[1])
	Elem(s, token, api.Html)
	if kids[1] != 99 || len(s.Tree.Nodes[s.Open[1]].Kids) != 4 {
		t.Errorf("behind the Kids it came to %v", kids)
	}
}

// P0: many, side by side and one in the other, come to an end.
func TestGreat(t *testing.T) {
	began := time.Now()
	s := within("", "html body")
	for range 1 << 18 {
		Elem(s, api.Token{Name: "b"}, api.Html)
		s.Open = s.Open[:2]
		Note(s, "n", 0)
	}
	for range 1 << 13 {
		Elem(s, api.Token{Name: "b"}, api.Html)
		Chars(s, "x")
		Chars(s, "y")
	}
	Elem(s, api.Token{Name: "table"}, api.Html)
	s.Foster = true
	for range 1 << 13 {
		Elem(s, api.Token{Name: "i"}, api.Html)
		s.Open = s.Open[:len(s.Open)-1]
	}
	if len(s.Open) != 1<<13+3 || len(s.Tree.Nodes[s.Open[len(s.Open)-2]].Kids) != 1<<13+2 {
		t.Errorf("%d are open", len(s.Open))
	}
	if took := time.Since(began); took > 20*time.Second {
		t.Errorf("it took %v", took)
	}
}
