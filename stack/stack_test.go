package stack

import (
	"math"
	"math/rand"
	"slices"
	"strconv"
	"strings"
	"testing"

	"hoarding/api"
	"hoarding/kinds"
	"hoarding/sketch"
)

// opened is what is written so, open, and a tree in which it is: each word is a node of its own, as sketch writes it (_ is one without a name), or a number.
// The nodes are numbered from the last one on, so that none has the number of its place.
func opened(s string) (api.Tree, []int) {
	var open []int
	var nodes []string
	all := strings.Fields(s)
	for at, word := range all {
		i, err := strconv.Atoi(word)
		if err != nil {
			i = len(all) - at
		}
		open = append(open, i)
		nodes = append(nodes, strings.ReplaceAll(word, "_", ""))
	}
	slices.Reverse(nodes)
	return sketch.Nodes(strings.Join(nodes, ";")), open
}

// The calls by the chapter's words.

func modelNode(t api.Tree, i int) api.Node {
	if i >= 0 && i < len(t.Nodes) {
		return t.Nodes[i]
	}
	return api.Node{Kind: api.Elem}
}

func modelIs(t api.Tree, i int, names string) bool {
	n := modelNode(t, i)
	return n.Kind == api.Elem && n.Space == api.Html && slices.Contains(strings.Fields(names), n.Name)
}

func modelHas(t api.Tree, open []int, names string, scope int) bool {
	for k := len(open) - 1; k >= 0; k-- {
		if modelIs(t, open[k], names) {
			return true
		}
		if n := modelNode(t, open[k]); kinds.Stops(scope, n.Space, n.Name) {
			return false
		}
	}
	return false
}

func modelFind(t api.Tree, open []int, name string) int {
	found := -1
	for k, i := range open {
		if modelIs(t, i, name) {
			found = k
		}
	}
	return found
}

func modelPop(t api.Tree, open []int, names string) int {
	n := len(open)
	for n > 1 {
		n--
		if modelIs(t, open[n], names) {
			break
		}
	}
	return n
}

func modelImplied(t api.Tree, open []int, but string) int {
	n := len(open)
	for n > 1 {
		top := modelNode(t, open[n-1])
		if top.Kind != api.Elem || !kinds.Implied(top.Space, top.Name) || slices.Contains(strings.Fields(but), top.Name) {
			break
		}
		n--
	}
	return n
}

func modelTo(t api.Tree, open []int, names string) int {
	n := len(open)
	for n > 1 && !modelIs(t, open[n-1], names) {
		n--
	}
	return n
}

func modelDrop(open []int, i int) []int {
	var out []int
	for _, one := range open {
		if one != i {
			out = append(out, one)
		}
	}
	return out
}

// allScopes are the scopes, and numbers that are none.
var allScopes = []int{api.Default, api.Item, api.Button, api.Table, api.Select, -1, 5, math.MaxInt, math.MinInt}

// look holds all that is told of x and open against the models, and among itself.
func look(t *testing.T, x api.Tree, open []int, names string) {
	t.Helper()
	beginning := func(call string, got []int, n int) {
		t.Helper()
		if !slices.Equal(got, open[:n]) {
			t.Fatalf("%s(%q) of %v in %+v leaves %v, not %v", call, names, open, x.Nodes, got, open[:n])
		}
	}
	pop := Pop(x, open, names)
	beginning("Pop", pop, modelPop(x, open, names))
	beginning("Implied", Implied(x, open, names), modelImplied(x, open, names))
	beginning("To", To(x, open, names), modelTo(x, open, names))
	find := Find(x, open, names)
	if want := modelFind(x, open, names); find != want {
		t.Fatalf("Find(%q) of %v in %+v is %d, not %d", names, open, x.Nodes, find, want)
	}
	for _, scope := range allScopes {
		has := Has(x, open, names, scope)
		if has != modelHas(x, open, names, scope) {
			t.Fatalf("%v in %+v has %q in %d: %v", open, x.Nodes, names, scope, has)
		}
		// P15.3: what went last is the one that was found, but where that is the first one.
		if has && (find < 0 || len(pop) != max(find, 1)) {
			t.Fatalf("%v in %+v has %q in %d, and Pop leaves %v", open, x.Nodes, names, scope, pop)
		}
	}
	for _, i := range append(slices.Clone(open), 0, -1, -2, 99) {
		if got := Is(x, i, names); got != modelIs(x, i, names) {
			t.Fatalf("%d in %+v Is %q: %v", i, x.Nodes, names, got)
		}
		if got := Drop(open, i); !slices.Equal(got, modelDrop(open, i)) {
			t.Fatalf("Drop of %d from %v leaves %v", i, open, got)
		}
	}
}

// P15.1: Top of none, of one, of many, of numbers that are no node.
func TestTop(t *testing.T) {
	for _, c := range []struct {
		open []int
		want int
	}{
		{nil, -1}, {[]int{}, -1}, {[]int{0}, 0}, {[]int{7}, 7}, {[]int{7, 3}, 3}, {[]int{3, 7, 0}, 0}, {[]int{1, -1}, -1}, {[]int{1, -7}, -7}, {[]int{-7, 1}, 1}, {[]int{1, math.MaxInt}, math.MaxInt}, {[]int{math.MinInt}, math.MinInt},
	} {
		if got := Top(c.open); got != c.want {
			t.Errorf("Top of %v is %d, not %d", c.open, got, c.want)
		}
	}
}

// P15.1: Is of each kind of node, with names of none, one and several words.
func TestIs(t *testing.T) {
	for _, c := range []struct {
		node, names string
		want        bool
	}{
		{"p", "p", true}, {"p", "div", false}, {"p", "div p", true}, {"p", "p div", true}, {"p", " \tp\n", true}, {"p", "a\np\rb\ff", true}, {"f", "a\np\rb\ff", true}, {"p", "", false}, {"p", "  ", false}, {"p", "P", false}, {"P", "p", false}, {"P", "P", true},
		{"p", "pre", false}, {"pre", "p", false}, {"p", "p-p", false}, {"h1", "h1 h2 h3", true}, {"h3", "h1 h2 h3", true}, {"h4", "h1 h2 h3", false}, {"p", "p p", true}, {"x-y", "x-y", true}, {"ä", "ö ä", true}, {"p", "p\u00a0q", false},
		{"svg:p", "p", false}, {"math:p", "p", false}, {"svg:title", "title", false}, {"#p", "p", false}, {"!p", "p", false}, {"?p", "p", false}, {"#", "", false}, {"_", "", false}, {"_", " ", false}, {"_", "p", false},
		{"0", "p", false}, {"0", "", false}, {"-1", "p", false}, {"-1", "", false}, {"2", "", false}, {"2", "p", false}, {"-9223372036854775808", " ", false}, {"9223372036854775807", " ", false},
	} {
		x, open := opened(c.node)
		if got := Is(x, open[0], c.names); got != c.want {
			t.Errorf("%s Is %q: %v", c.node, c.names, got)
		}
	}
	x := sketch.Nodes("p; p; p")
	x.Nodes[0].Name, x.Nodes[1].Kind, x.Nodes[2].Space, x.Nodes[3].Name = "p", 9, -1, "p q"
	for i := range x.Nodes {
		if Is(x, i, "p q") {
			t.Errorf("%+v Is p", x.Nodes[i])
		}
	}
	x.Nodes[1].Kind, x.Nodes[1].Name = api.Elem, "p\u00a0q"
	if x.Nodes[0].Kind = api.Elem; !Is(x, 0, "p") || !Is(x, 1, "q p\u00a0q") || Is(api.Tree{}, 0, "p") || Is(api.Tree{}, 0, "") {
		t.Error("an element of the number 0 is none, or one without nodes is")
	}
}

// P15.1: Find of a name that none Is, that one Is, that several Is; of several names.
func TestFind(t *testing.T) {
	for _, c := range []struct {
		open, name string
		want       int
	}{
		{"", "p", -1}, {"", "", -1}, {"p", "p", 0}, {"p", "div", -1}, {"html body", "p", -1}, {"html body p", "p", 2}, {"html p div", "p", 1}, {"p html div", "p", 0}, {"html p div p b", "p", 3}, {"p p p", "p", 2}, {"p p div div", "p", 1}, {"p p svg:p svg:p", "p", 1},
		{"html p div b", "p div", 2}, {"html div p b", "p div", 2}, {"html p div", "", -1}, {"html p svg:p", "p", 1}, {"html p math:p", "p", 1}, {"html p #p !p ?p", "p", 1}, {"html svg:p", "p", -1}, {"#p", "p", -1},
		{"html p -1 -7 99", "p", 1}, {"-1", "p", -1}, {"-1 99", "", -1}, {"html table p table td", "p", 2}, {"p _ _", "p", 0}, {"_ _", "", -1}, {"-1 p -1", "p", 1},
	} {
		x, open := opened(c.open)
		if got := Find(x, open, c.name); got != c.want {
			t.Errorf("Find(%q) of %q is %d, not %d", c.name, c.open, got, c.want)
		}
		look(t, x, open, c.name)
	}
	x := sketch.Nodes("p; div")
	if got := Find(x, []int{1, 2, 1, 2, 2}, "p"); got != 2 {
		t.Errorf("of one that is open twice it is the place %d", got)
	}
}

// What stops each scope: of Html, and of Svg and Math; and what stops none of those that are listed.
const (
	ends      = "applet caption html marquee object table td template th svg:desc svg:foreignObject svg:title math:annotation-xml math:mi math:mn math:mo math:ms math:mtext"
	endsItem  = ends + " ol ul"
	endsBut   = ends + " button"
	endsTable = "html table template"
	endsNot   = "div p b li body svg:svg svg:table math:math math:td svg:html svg:button math:ol _ svg:_ desc mi foreignObject 0 -1 99"
	every     = endsItem + " button " + endsNot + " optgroup option svg:option math:optgroup select"
)

// P15.1: Has in each scope, with each one that stops it, and each that does not; that one of another Kind stops it, too.
func TestHasScopes(t *testing.T) {
	for _, c := range []struct {
		scope  int
		stops  string
		passes string
	}{
		{api.Default, ends, endsNot + " ol ul button optgroup option select"}, {api.Item, endsItem, endsNot + " button optgroup option"}, {api.Button, endsBut, endsNot + " ol ul option"},
		{api.Table, endsTable, endsNot + " caption td th object svg:desc math:mi svg:title ol button svg:template"}, {api.Select, endsItem + " button select " + endsNot + " svg:option math:optgroup svg:optgroup", "optgroup option"}, {-1, every, ""}, {5, every, ""}, {math.MaxInt, every, ""}, {math.MinInt, every, ""},
	} {
		for _, one := range strings.Fields(c.stops) {
			inBetween(t, c.scope, one, false)
		}
		for _, one := range strings.Fields(c.passes) {
			inBetween(t, c.scope, one, true)
		}
	}
}

// inBetween holds what is told of x in scope, where that one is open behind it, and of each Kind.
func inBetween(t *testing.T, scope int, one string, want bool) {
	t.Helper()
	x, open := opened("x " + one)
	if got := Has(x, open, "x y", scope); got != want {
		t.Errorf("behind x there is %s: x is in scope %d: %v", one, scope, got)
	}
	if got := Has(x, open, "y", scope); got {
		t.Errorf("%s has y in scope %d", one, scope)
	}
	if i := open[1]; i > 0 && i < len(x.Nodes) {
		for _, kind := range []int{api.Root, api.Chars, api.Remark, api.Type, 9, -1} {
			x.Nodes[i].Kind = kind
			if got := Has(x, open, "x", scope); got != want {
				t.Errorf("behind x there is %s of the Kind %d: x is in scope %d: %v", one, kind, scope, got)
			}
			if name := x.Nodes[i].Name; Has(x, open, name, scope) {
				t.Errorf("%s of the Kind %d is in scope %d", one, kind, scope)
			}
		}
	}
}

// P15.1: Has with one that Is a name and stops the scope at once, with several names, at the first one, and with nothing open.
func TestHas(t *testing.T) {
	for _, c := range []struct {
		open, names string
		scope       int
		want        bool
	}{
		{"", "p", api.Default, false}, {"", "", api.Select, false}, {"p", "p", api.Default, true}, {"p", "p", api.Select, true}, {"p", "p", 77, true}, {"html", "html", api.Table, true}, {"html", "p", api.Table, false}, {"div", "p", api.Button, false},
		{"html body p", "p", api.Button, true}, {"html body p b i", "p", api.Button, true}, {"html p button", "p", api.Button, false}, {"html p button", "p", api.Default, true}, {"html p button", "button", api.Button, true}, {"html table", "table", api.Table, true}, {"html table td", "table", api.Default, false}, {"html table td", "table", api.Table, true}, {"html table td", "td th", api.Default, true}, {"html table td", "table td", api.Default, true},
		{"html li ul", "li", api.Item, false}, {"html li ul", "li", api.Default, true}, {"html li ul li", "li", api.Item, true}, {"html ul", "ul", api.Item, true}, {"html h2 b", "h1 h2 h3", api.Default, true}, {"html h2 b", "h1 h3", api.Default, false}, {"html h2 td", "h1 h2", api.Default, false},
		{"html select option", "select", api.Select, true}, {"html select optgroup option", "select", api.Select, true}, {"html select optgroup svg:option", "select", api.Select, false}, {"html select div option", "select", api.Select, false}, {"html select option", "option", api.Select, true}, {"html select -1 option", "select", api.Select, false}, {"html p -1 99", "p", api.Default, true}, {"html p 0", "p", api.Default, true}, {"html p 0", "p", api.Select, false},
		{"html p svg:p svg:g", "p", api.Default, true}, {"html p svg:p svg:desc", "p", api.Default, false}, {"html p svg:desc p", "p", api.Default, true}, {"html p #table", "p", api.Default, false}, {"html p #table", "table", api.Default, false}, {"html table #table", "table", api.Default, false}, {"html #p", "p", api.Default, false}, {"html p #p", "p", api.Default, true}, {"html p ?td", "p td", api.Button, false}, {"html p !svg:title", "p", api.Default, false},
		{"html p", "", api.Default, false}, {"_ _", "", api.Default, false}, {"-1", "", api.Default, false}, {"p p p p", "p", api.Item, true}, {"p b b b b", "p", api.Item, true}, {"p b b td td", "p", api.Item, false}, {"p b td b td b", "p", api.Item, false},
	} {
		x, open := opened(c.open)
		if got := Has(x, open, c.names, c.scope); got != c.want {
			t.Errorf("%q has %q in scope %d: %v", c.open, c.names, c.scope, got)
		}
		look(t, x, open, c.names)
	}
}

// P15.2: Pop and To, as the number that is left: where the first one alone is left, where it Is a name itself, where none Is.
func TestPopTo(t *testing.T) {
	for _, c := range []struct {
		open, names string
		pop, to     int
	}{
		{"", "p", 0, 0}, {"", "", 0, 0}, {"p", "p", 1, 1}, {"p", "div", 1, 1}, {"p", "", 1, 1}, {"-1", "p", 1, 1}, {"#p", "p", 1, 1},
		{"html body p", "p", 2, 3}, {"html body p b i", "p", 2, 3}, {"html body p b p", "p", 4, 5}, {"html p p p", "p", 3, 4}, {"html p b b", "p", 1, 2}, {"html body", "body", 1, 2}, {"html body", "html", 1, 1}, {"html body p", "html", 1, 1}, {"p p", "p", 1, 2}, {"p div", "p", 1, 1}, {"p div b", "p", 1, 1},
		{"html body p", "div", 1, 1}, {"html body p", "", 1, 1}, {"html table tr td b", "td th", 3, 4}, {"html table tr th b", "td th", 3, 4}, {"html table tbody tr", "tbody tfoot thead html", 2, 3}, {"html table tr td", "tr html", 2, 3}, {"html table b", "table html", 1, 2}, {"table table b", "table", 1, 2},
		{"html p svg:p", "p", 1, 2}, {"html svg:p math:p", "p", 1, 1}, {"html p #p", "p", 1, 2}, {"html p !p ?p", "p", 1, 2}, {"html p -1 99 0", "p", 1, 2}, {"html p _", "p", 1, 2}, {"html p _", "", 1, 1}, {"-1 -2 -3", "p", 1, 1}, {"svg:p p", "p", 1, 2}, {"html P p b", "P", 1, 2}, {"html p table td", "p", 1, 2},
	} {
		x, open := opened(c.open)
		if got := Pop(x, open, c.names); !slices.Equal(got, open[:c.pop]) {
			t.Errorf("Pop(%q) of %q leaves %v, not %d", c.names, c.open, got, c.pop)
		}
		if got := To(x, open, c.names); !slices.Equal(got, open[:c.to]) {
			t.Errorf("To(%q) of %q leaves %v, not %d", c.names, c.open, got, c.to)
		}
		look(t, x, open, c.names)
	}
}

// P15.2: Implied, as the number that is left, with but of none, of one and of several words.
func TestImplied(t *testing.T) {
	for _, c := range []struct {
		open, but string
		want      int
	}{
		{"", "", 0}, {"", "p", 0}, {"p", "", 1}, {"p", "p", 1}, {"div", "", 1}, {"-1", "", 1}, {"html p", "", 1}, {"html p", "p", 2}, {"html p", "li", 1}, {"html p", "P", 1}, {"html div", "", 2}, {"html div p", "", 2}, {"html p div", "", 3}, {"html p li", "", 1},
		{"html p li", "p", 2}, {"html p li", "li", 3}, {"html p li dd", "li p", 3}, {"html p li dd", "dd rt", 4}, {"html p li dd", "rt rb", 1}, {"html p li dd", " \n", 1}, {"html dd dt li optgroup option p rb rp rt rtc", "", 1}, {"html dd dt li optgroup option p rb rp rt rtc", "dt", 3}, {"html dd dt li optgroup option p rb rp rt rtc", "option rp dt", 9}, {"p p p p", "", 1}, {"p p p p", "p", 4}, {"p p li li", "p", 2},
		{"html svg:p", "", 2}, {"html p svg:p", "", 3}, {"html math:li", "", 2}, {"html svg:p p", "", 2}, {"html #p", "", 2}, {"html !li", "", 2}, {"html ?rt p p", "", 2}, {"html -1", "", 2}, {"html 99 p", "", 2}, {"html 0 p", "", 2}, {"html _ p", "", 2}, {"html _", "", 2}, {"html tr p", "", 2}, {"html ruby rtc rt", "rtc", 3},
	} {
		x, open := opened(c.open)
		if got := Implied(x, open, c.but); !slices.Equal(got, open[:c.want]) {
			t.Errorf("Implied(%q) of %q leaves %v, not %d", c.but, c.open, got, c.want)
		}
		look(t, x, open, c.but)
	}
}

// P15.2: Drop of what is there once, twice, not at all, and of the first one.
func TestDrop(t *testing.T) {
	for _, c := range []struct {
		open []int
		i    int
		want []int
	}{
		{nil, 1, nil}, {[]int{1}, 1, nil}, {[]int{1}, 2, []int{1}}, {[]int{1, 1}, 1, nil}, {[]int{1, 2, 3}, 1, []int{2, 3}}, {[]int{1, 2, 3}, 2, []int{1, 3}}, {[]int{1, 2, 3}, 3, []int{1, 2}}, {[]int{1, 2, 3}, 4, []int{1, 2, 3}}, {[]int{1, 2, 1, 3, 1}, 1, []int{2, 3}}, {[]int{2, 1, 1, 2}, 1, []int{2, 2}},
		{[]int{0, 1}, 0, []int{1}}, {[]int{1, 2}, 0, []int{1, 2}}, {[]int{1, -1, 2, -1}, -1, []int{1, 2}}, {[]int{1, -2, 2}, -1, []int{1, -2, 2}}, {[]int{-2, 2}, -2, []int{2}}, {[]int{3, math.MinInt, math.MaxInt}, math.MinInt, []int{3, math.MaxInt}}, {[]int{3, math.MinInt, math.MaxInt}, math.MaxInt, []int{3, math.MinInt}},
	} {
		if got := Drop(c.open, c.i); !slices.Equal(got, c.want) {
			t.Errorf("Drop of %d from %v leaves %v", c.i, c.open, got)
		}
	}
}

// pool are nodes of many kinds: implied ones, ones that stop a scope, of each namespace and Kind, one without a name; and numbers that are none.
const pool = "html p p li table button option optgroup td div svg:p svg:title math:mi #p #table !li _ 0 -1 -2 99"

// P15.1 to P15.3: all that may be open of up to three of the pool, and much that is deeper, held against the models.
func TestModel(t *testing.T) {
	x, all := opened(pool)
	names := []string{"", "p", "table p", "option div"}
	for _, name := range names {
		look(t, x, nil, name)
		for _, one := range all {
			look(t, x, []int{one}, name)
			for _, two := range all {
				look(t, x, []int{one, two}, name)
				for _, three := range all {
					look(t, x, []int{one, two, three}, name)
				}
			}
		}
	}
	r := rand.New(rand.NewSource(15))
	words := strings.Fields(pool + " optgroup li\tp a\nb")
	for range 5000 {
		open := make([]int, r.Intn(12))
		for at := range open {
			open[at] = all[r.Intn(len(all))]
			// Runs of what is alike are told in one go.
			if at > 0 && r.Intn(3) == 0 {
				open[at] = open[at-1]
			}
		}
		look(t, x, open, words[r.Intn(len(words))]+" "+words[r.Intn(len(words))])
	}
}

// P15.1 to P15.3: nodes that part in one field alone, right behind one another, are told one by one.
func TestNearlyAlike(t *testing.T) {
	odd := sketch.Nodes("p; p; p; p; p; p; p; p")
	odd.Nodes[2].Kind, odd.Nodes[4].Space, odd.Nodes[6].Name, odd.Nodes[8].Kind, odd.Nodes[8].Name = api.Chars, api.Svg, "table", -1, ""
	odd.Nodes[3].Attrs, odd.Nodes[5].Data = []api.Attr{{Name: "x"}}, "y"
	for _, open := range [][]int{{1, 2}, {2, 1}, {1, 4}, {4, 1}, {1, 6}, {6, 1}, {1, 8}, {8, 1}, {1, 3, 5, 7}, {2, 3}, {2, 3, 2}, {4, 3, 4}, {6, 3, 6}, {0, 3, 8}, {8, 8, 8}, {8, 0, -1}, {1, -1, 8}} {
		for _, names := range []string{"p", "table", "", "p table", "div"} {
			look(t, odd, open, names)
		}
	}
	// The top is told, whatever it is.
	blank := api.Tree{Nodes: []api.Node{{}}}
	if Has(blank, []int{0}, "p", api.Select) || len(To(blank, []int{-1, 0}, "p")) != 1 || len(Implied(blank, []int{-1, 0}, "")) != 2 {
		t.Error("a node of no Kind is not told")
	}
	option := sketch.Nodes("select; option")
	if option.Nodes[0] = (api.Node{}); Has(option, []int{1, 0}, "select", api.Select) || !Has(option, []int{1, 2}, "select", api.Select) {
		t.Error("a root at the top is passed over")
	}
}

// Rules: no call changes what it is told; what lies behind the list plays no part; what is told is new memory.
func TestKeepsApart(t *testing.T) {
	x, open := opened("html div p li b table p svg:p #p 99 -1")
	whole := append(slices.Clone(open), open[2], 7, 8)
	was := slices.Clone(whole)
	calls := map[string]func(t api.Tree, open []int) []int{
		"Pop":         func(t api.Tree, open []int) []int { return Pop(t, open, "p") },
		"Pop none":    func(t api.Tree, open []int) []int { return Pop(t, open, "q") },
		"Implied":     func(t api.Tree, open []int) []int { return Implied(t, open, "") },
		"To":          func(t api.Tree, open []int) []int { return To(t, open, "p") },
		"To none":     func(t api.Tree, open []int) []int { return To(t, open, "") },
		"Drop":        func(t api.Tree, open []int) []int { return Drop(open, open[0]) },
		"Drop last":   func(t api.Tree, open []int) []int { return Drop(open, open[len(open)-1]) },
		"Drop nobody": func(t api.Tree, open []int) []int { return Drop(open, 1000) },
	}
	for n := 1; n <= len(open); n++ {
		part := whole[:n]
		for name, call := range calls {
			if !sketch.Stays(x, func(x api.Tree) {
				out := call(x, part)
				first := slices.Clone(out)
				_ = append(out, 1000, 1001, 1002)
				for at := range out {
					out[at] = 1000
				}
				if again := call(x, part); !slices.Equal(again, first) {
					t.Errorf("%s of %v tells %v, then %v", name, part, first, again)
				}
			}) {
				t.Errorf("%s changes the tree", name)
			}
			if !slices.Equal(whole, was) {
				t.Fatalf("%s of %d: %v became %v", name, n, was, whole)
			}
		}
		if !sketch.Stays(x, func(x api.Tree) { look(t, x, part, "p") }) || Top(part) != was[n-1] || !slices.Equal(whole, was) {
			t.Errorf("of %d the list or the tree is changed", n)
		}
	}
	// Nodes behind the tree's length are none.
	nodes := sketch.Nodes("p; p").Nodes
	if part := (api.Tree{Nodes: nodes[:2]}); Is(part, 2, "p") || Find(part, []int{1, 2}, "p") != 0 {
		t.Error("what lies behind the nodes is seen")
	}
}

// P0: great lists and great names come to an end, and soon.
func TestGreat(t *testing.T) {
	const many = 1 << 20
	x := sketch.Nodes("html; div; p; option; svg:g")
	deep := slices.Repeat([]int{2}, many)
	mixed := slices.Repeat([]int{2, 5}, many/2)
	for _, open := range [][]int{deep, mixed, slices.Repeat([]int{-1}, many), slices.Repeat([]int{3, 4}, many/2)} {
		open[0] = 1
		names := "select html"
		if !Has(x, open, names, api.Default) || Find(x, open, names) != 0 || len(Pop(x, open, names)) != 1 || len(To(x, open, names)) != 1 || len(Drop(open, 1)) != many-1 || Top(open) != open[many-1] {
			t.Error("a great list is told otherwise")
		}
		want := many
		if open[many-1] == 4 {
			want = 1
		}
		if len(Implied(x, open, "")) != want || len(Implied(x, open, "option")) != many {
			t.Error("what is implied of a great list is told otherwise")
		}
	}
	for _, names := range []string{strings.Repeat("q ", many) + "p", strings.Repeat(" ", many) + "p", strings.Repeat("p", many) + " p"} {
		if !Is(x, 3, names) || Is(x, 2, names) || !Has(x, []int{1, 3, 2}, names, api.Button) || Find(x, []int{1, 3, 2}, names) != 1 || len(Pop(x, []int{1, 3, 2}, names)) != 1 || len(To(x, []int{1, 3, 2}, names)) != 2 || len(Implied(x, []int{1, 4, 3, 4}, names)) != 3 {
			t.Error("great names are told otherwise")
		}
	}
	x.Nodes[2].Name = strings.Repeat("p", many)
	if Is(x, 2, "p") || !Is(x, 2, "p "+x.Nodes[2].Name) || Find(x, deep, "p") != -1 || len(Pop(x, deep, "p")) != 1 || len(Implied(x, deep, "")) != many {
		t.Error("a node of a great name is told otherwise")
	}
}
