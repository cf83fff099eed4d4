package tree

import (
	"math"
	"math/rand"
	"reflect"
	"slices"
	"strings"
	"testing"

	"hoarding/api"
	"hoarding/sketch"
)

// The calls by the chapter's words; those that change a tree tell a new one.

func modelIs(t api.Tree, i int) bool { return i >= 0 && i < len(t.Nodes) }

func modelPlace(t api.Tree, kid int) int {
	if modelIs(t, kid) && modelIs(t, t.Nodes[kid].Up) {
		for at, one := range t.Nodes[t.Nodes[kid].Up].Kids {
			if one == kid {
				return at
			}
		}
	}
	return -1
}

func modelHolds(t api.Tree, up, kid int) bool {
	above := map[int]bool{}
	for at := kid; modelIs(t, at) && !above[at]; at = t.Nodes[at].Up {
		above[at] = true
	}
	return above[up]
}

func modelCut(t api.Tree, kid int) api.Tree {
	t = sketch.Copy(t)
	if at := modelPlace(t, kid); at >= 0 {
		var kids []int
		for i, one := range t.Nodes[t.Nodes[kid].Up].Kids {
			if i != at {
				kids = append(kids, one)
			}
		}
		t.Nodes[t.Nodes[kid].Up].Kids = kids
	}
	if modelIs(t, kid) && kid > 0 {
		t.Nodes[kid].Up = -1
	}
	return t
}

func modelPut(t api.Tree, up, at, kid int) api.Tree {
	if !modelIs(t, up) || !modelIs(t, kid) || kid == 0 || modelHolds(t, kid, up) {
		return sketch.Copy(t)
	}
	t = modelCut(t, kid)
	var kids []int
	for i, one := range t.Nodes[up].Kids {
		if i == at || i == 0 && at < 0 {
			kids = append(kids, kid)
		}
		kids = append(kids, one)
	}
	if at >= len(t.Nodes[up].Kids) || len(t.Nodes[up].Kids) == 0 {
		kids = append(kids, kid)
	}
	t.Nodes[up].Kids, t.Nodes[kid].Up = kids, up
	return t
}

func modelMove(t api.Tree, from, to int) api.Tree {
	t = sketch.Copy(t)
	if !modelIs(t, from) || !modelIs(t, to) || modelHolds(t, from, to) {
		return t
	}
	for _, kid := range t.Nodes[from].Kids {
		t.Nodes[to].Kids = append(t.Nodes[to].Kids, kid)
		if modelIs(t, kid) {
			t.Nodes[kid].Up = to
		}
	}
	t.Nodes[from].Kids = nil
	return t
}

// lookAt holds t behind do against what is wanted; t's Kids lie in one memory, one list behind the other, which stays as it is.
func lookAt(t *testing.T, what string, x, want api.Tree, do func(x *api.Tree)) {
	t.Helper()
	got, memory := sketch.Crowd(x)
	was := slices.Clone(memory)
	do(&got)
	if !sketch.Alike(got, want) {
		t.Fatalf("%s: %s became %s, not %s", what, sketch.Write(x), sketch.Write(got), sketch.Write(want))
	}
	if !slices.Equal(memory, was) {
		t.Fatalf("%s of %s: memory that held the lists %v holds %v", what, sketch.Write(x), was, memory)
	}
}

// look holds all calls on x, of these numbers, against the models.
func look(t *testing.T, x api.Tree, numbers []int) {
	t.Helper()
	for _, kid := range numbers {
		if got, want := Place(x, kid), modelPlace(x, kid); got != want {
			t.Fatalf("Place(%s, %d) = %d, not %d", sketch.Write(x), kid, got, want)
		}
		lookAt(t, "Cut of "+sketch.Number(kid), x, modelCut(x, kid), func(x *api.Tree) { Cut(x, kid) })
		for _, up := range numbers {
			if got, want := Holds(x, up, kid), modelHolds(x, up, kid); got != want {
				t.Fatalf("Holds(%s, %d, %d) = %v, not %v", sketch.Write(x), up, kid, got, want)
			}
			lookAt(t, "Move from "+sketch.Number(up)+" to "+sketch.Number(kid), x, modelMove(x, up, kid), func(x *api.Tree) { Move(x, up, kid) })
			for at := -1; at < 4; at++ {
				lookAt(t, "Put of "+sketch.Number(kid)+" into "+sketch.Number(up)+" at "+sketch.Number(at), x, modelPut(x, up, at, kid), func(x *api.Tree) { Put(x, up, at, kid) })
			}
		}
	}
}

// P12.1: a new tree is the root alone.
func TestNew(t *testing.T) {
	x := New()
	if !reflect.DeepEqual(x, api.Tree{Nodes: []api.Node{{Kind: api.Root, Up: -1}}}) {
		t.Errorf("a new tree is %+v", x)
	}
	Add(&x, api.Node{Name: "a"})
	x.Nodes[0].Name = "b"
	if y := New(); sketch.Write(y) != "-[]" || y.Nodes[0].Name != "" {
		t.Errorf("a new tree is %+v, where another one was changed", y)
	}
}

// P12.1: what is added has what it is told, but neither Up nor Kids.
func TestAdd(t *testing.T) {
	x := New()
	attrs := []api.Attr{{Name: "b", Value: "c"}, {Name: "d"}, {Name: "b"}}
	for i, n := range []api.Node{
		{Kind: api.Elem, Space: api.Svg, Name: "a", Attrs: attrs, Data: "d", Up: 0, Kids: []int{0, 1}}, {Kind: api.Chars, Data: "text", Up: 1}, {Kind: api.Remark, Data: "", Up: -7, Kids: []int{9}}, {Kind: api.Type, Name: "html", Up: -1}, {}, {Kind: 99, Space: -5, Name: "\xff", Up: math.MinInt}, {Kind: api.Root, Up: 3}, {Attrs: []api.Attr{}},
	} {
		if got := Add(&x, n); got != i+1 || len(x.Nodes) != i+2 {
			t.Fatalf("%+v has the number %d of %d", n, got, len(x.Nodes))
		}
		want := n
		want.Up, want.Kids = -1, nil
		got := x.Nodes[i+1]
		if len(n.Attrs) == 0 && len(got.Attrs) == 0 {
			got.Attrs, want.Attrs = nil, nil
		}
		if len(got.Kids) != 0 {
			t.Errorf("%+v came with kids", got)
		}
		got.Kids = nil
		if !reflect.DeepEqual(got, want) {
			t.Errorf("%+v was added as %+v", n, got)
		}
	}
	if got := sketch.Write(x); got != "-[]"+strings.Repeat("; -[]", 8) {
		t.Errorf("nothing is put anywhere yet: %s", got)
	}
	var none api.Tree
	if i := Add(&none, api.Node{Kind: api.Elem, Name: "a", Up: 4, Kids: []int{1}}); i != 0 || sketch.Write(none) != "-[]" || none.Nodes[0].Name != "a" {
		t.Errorf("the first node of a tree without any has the number %d: %+v", i, none)
	}
}

// A tree in which each thing is that the chapter names: 1 stands twice in the root; 7 is in nothing; the Up of 4 is no node; 3 has what is no node, and 1, whose Up is another; 5 and 6 are each other's Up; the Up of 8 does not have it.
const odd = "-[1 2 1]; 0[]; 0[3]; 2[9 - 1]; 9[]; 6[6]; 5[5]; -[]; 2[]"

// P12.2: Place.
func TestPlace(t *testing.T) {
	x := sketch.Read(odd)
	for kid, want := range map[int]int{-2: -1, -1: -1, 0: -1, 1: 0, 2: 1, 3: 0, 4: -1, 5: 0, 6: 0, 7: -1, 8: -1, 9: -1, math.MaxInt: -1, math.MinInt: -1} {
		if got := Place(x, kid); got != want {
			t.Errorf("Place of %d is %d, not %d", kid, got, want)
		}
	}
	for _, c := range []struct {
		s         string
		kid, want int
	}{
		{"-[1 2 3]; 0[]; 0[]; 0[]", 3, 2}, {"-[1 2 3]; 0[]; 0[]; 0[]", 2, 1}, {"-[2 2 1 2]; 0[]; 0[]", 2, 0}, {"-[2 2 1 2]; 0[]; 0[]", 1, 2}, {"0[1 0]; 0[]", 0, 1}, {"1[1]; 0[0]", 0, 0}, {"1[1]; -[0]", 1, -1}, {"-[1]; 1[0 1]", 1, 1}, {"-[1]; 2[]", 1, -1}, {"-[1]; -[]", 1, -1}, {"-[1]; --[]", 1, -1}, {"-[1]; 1[]", 1, -1},
	} {
		if got := Place(sketch.Read(c.s), c.kid); got != c.want {
			t.Errorf("Place of %d in %s is %d, not %d", c.kid, c.s, got, c.want)
		}
	}
	if got := Place(api.Tree{}, 0); got != -1 {
		t.Errorf("a tree without nodes has a place: %d", got)
	}
}

// P12.2: Holds.
func TestHolds(t *testing.T) {
	x := sketch.Read(odd)
	for up, kids := range map[int][]int{-1: nil, 0: {0, 1, 2, 3, 8}, 1: {1}, 2: {2, 3, 8}, 3: {3}, 4: {4}, 5: {5, 6}, 6: {5, 6}, 7: {7}, 8: {8}, 9: nil, math.MaxInt: nil, math.MinInt: nil} {
		for kid := -2; kid < 12; kid++ {
			if got, want := Holds(x, up, kid), slices.Contains(kids, kid); got != want {
				t.Errorf("%d holds %d: %v", up, kid, got)
			}
		}
	}
	chain := sketch.Read("-[1]; 0[2]; 1[3]; 2[4]; 3[]")
	for up := range 5 {
		for kid := range 5 {
			if got := Holds(chain, up, kid); got != (up <= kid) {
				t.Errorf("in a chain %d holds %d: %v", up, kid, got)
			}
		}
	}
	for _, c := range []struct {
		s       string
		up, kid int
		want    bool
	}{
		{"0[]", 0, 0, true}, {"1[]; 2[]; 0[]", 2, 0, true}, {"1[]; 2[]; 0[]", 1, 0, true}, {"1[]; 2[]; 3[]; 0[]", 0, 1, true}, {"1[]; 2[]; 2[]", 0, 1, false}, {"1[]; 2[]; 1[]; -[]", 3, 0, false}, {"1[]; 2[]; 1[]", 2, 0, true}, {"1[]; 9[]", 1, 0, true}, {"-[]; 0[]", 0, 1, true}, {"-[1]; -[]", 0, 1, false}, {"1[]; -[]", 0, 1, false},
	} {
		if got := Holds(sketch.Read(c.s), c.up, c.kid); got != c.want {
			t.Errorf("in %s %d holds %d: %v", c.s, c.up, c.kid, got)
		}
	}
	if Holds(api.Tree{}, 0, 0) || Holds(api.Tree{}, -1, -1) {
		t.Error("what is no node holds itself")
	}
}

// P12.3: Cut.
func TestCut(t *testing.T) {
	for _, c := range []struct {
		s    string
		kid  int
		want string
	}{
		{"-[1 2 3]; 0[]; 0[]; 0[]", 1, "-[2 3]; -[]; 0[]; 0[]"}, {"-[1 2 3]; 0[]; 0[]; 0[]", 2, "-[1 3]; 0[]; -[]; 0[]"}, {"-[1 2 3]; 0[]; 0[]; 0[]", 3, "-[1 2]; 0[]; 0[]; -[]"}, {"-[1]; 0[2]; 1[]", 1, "-[]; -[2]; 1[]"}, {"-[1]; 0[2]; 1[]", 2, "-[1]; 0[]; -[]"},
		{"-[1]; 0[]", 0, "-[1]; 0[]"}, {"0[0 0]", 0, "0[0]"}, {"1[1]; 0[0]", 0, "1[1]; 0[]"}, {"9[1]; 0[]", 0, "9[1]; 0[]"}, {"1[]; 0[]", 0, "1[]; 0[]"},
		{"-[]; -[2]; 1[]", 1, "-[]; -[2]; 1[]"}, {"-[1 2 1]; 0[]; 0[]", 1, "-[2 1]; -[]; 0[]"}, {"-[2 1 1]; 0[]; 0[]", 1, "-[2 1]; -[]; 0[]"}, {"-[1]; 9[]", 1, "-[1]; -[]"}, {"-[1]; --[]", 1, "-[1]; -[]"}, {"-[1]; 2[]; 0[]", 1, "-[1]; -[]; 0[]"}, {"-[1]; 2[]; 0[1]", 1, "-[1]; -[]; 0[]"}, {"-[]; 1[1]", 1, "-[]; -[]"},
		{"-[1]; 0[]", 2, "-[1]; 0[]"}, {"-[1]; 0[]", -1, "-[1]; 0[]"}, {"-[1 2]; 0[]", 2, "-[1 2]; 0[]"}, {"-[1 -]; 0[]", -1, "-[1 -]; 0[]"},
	} {
		lookAt(t, "Cut of "+sketch.Number(c.kid), sketch.Read(c.s), sketch.Read(c.want), func(x *api.Tree) { Cut(x, c.kid) })
	}
}

// P12.3: Put.
func TestPut(t *testing.T) {
	const three = "-[1 2 3]; 0[]; 0[]; 0[]; -[]"
	for _, c := range []struct {
		s           string
		up, at, kid int
		want        string
	}{
		{"-[]; -[]", 0, 5, 1, "-[1]; 0[]"}, {"-[]; -[]", 0, 0, 1, "-[1]; 0[]"}, {three, 0, 0, 4, "-[4 1 2 3]; 0[]; 0[]; 0[]; 0[]"}, {three, 0, 1, 4, "-[1 4 2 3]; 0[]; 0[]; 0[]; 0[]"}, {three, 0, 2, 4, "-[1 2 4 3]; 0[]; 0[]; 0[]; 0[]"}, {three, 0, 3, 4, "-[1 2 3 4]; 0[]; 0[]; 0[]; 0[]"},
		{three, 0, 4, 4, "-[1 2 3 4]; 0[]; 0[]; 0[]; 0[]"}, {three, 0, math.MaxInt, 4, "-[1 2 3 4]; 0[]; 0[]; 0[]; 0[]"}, {three, 0, -1, 4, "-[4 1 2 3]; 0[]; 0[]; 0[]; 0[]"}, {three, 0, math.MinInt, 4, "-[4 1 2 3]; 0[]; 0[]; 0[]; 0[]"},
		{three, 0, 0, 1, three}, {three, 0, 1, 1, "-[2 1 3]; 0[]; 0[]; 0[]; -[]"}, {three, 0, 2, 1, "-[2 3 1]; 0[]; 0[]; 0[]; -[]"}, {three, 0, 3, 1, "-[2 3 1]; 0[]; 0[]; 0[]; -[]"}, {three, 0, 0, 3, "-[3 1 2]; 0[]; 0[]; 0[]; -[]"}, {three, 0, 1, 3, "-[1 3 2]; 0[]; 0[]; 0[]; -[]"}, {three, 0, 2, 3, three}, {three, 0, -1, 2, "-[2 1 3]; 0[]; 0[]; 0[]; -[]"},
		{three, 2, 0, 1, "-[2 3]; 2[]; 0[1]; 0[]; -[]"}, {three, 4, 0, 1, "-[2 3]; 4[]; 0[]; 0[]; -[1]"}, {"-[1]; 0[2]; 1[]", 0, 0, 2, "-[2 1]; 0[]; 0[]"},
		{three, 0, 0, 0, three}, {three, 4, 0, 0, three}, {three, 1, 0, 0, three}, {three, 1, 0, 1, three}, {"-[1]; 0[2]; 1[3]; 2[]", 3, 0, 1, "-[1]; 0[2]; 1[3]; 2[]"}, {"-[1]; 0[2]; 1[3]; 2[]", 2, 0, 1, "-[1]; 0[2]; 1[3]; 2[]"}, {"-[1]; 0[2]; 1[3]; 2[]", 1, 0, 3, "-[1]; 0[3 2]; 1[]; 1[]"}, {"-[]; 2[]; -[]", 1, 0, 2, "-[]; 2[]; -[]"}, {"-[]; 2[]; 1[]; -[]", 1, 0, 3, "-[]; 2[3]; 1[]; 1[]"}, {"-[]; 2[]; 1[]", 1, 0, 2, "-[]; 2[]; 1[]"}, {"-[]; -[2]; -[]", 2, 0, 1, "-[]; 2[2]; -[1]"},
		{three, 5, 0, 1, three}, {three, -1, 0, 1, three}, {three, 0, 0, 5, three}, {three, 0, 0, -1, three}, {three, 5, 0, 5, three}, {three, -1, 0, -1, three},
		{"-[1 2 1]; 0[]; 0[]", 0, 9, 1, "-[2 1 1]; 0[]; 0[]"}, {"-[1 2 1]; 0[]; 0[]", 2, 0, 1, "-[2 1]; 2[]; 0[1]"}, {"-[1]; 9[]", 0, 0, 1, "-[1 1]; 0[]"}, {"-[9 -]; -[]", 0, 1, 1, "-[9 1 -]; 0[]"},
	} {
		lookAt(t, "Put of "+sketch.Number(c.kid)+" into "+sketch.Number(c.up), sketch.Read(c.s), sketch.Read(c.want), func(x *api.Tree) { Put(x, c.up, c.at, c.kid) })
	}
}

// P12.3: Move.
func TestMove(t *testing.T) {
	const two = "-[1 2]; 0[3 4]; 0[5]; 1[]; 1[]; 2[]"
	for _, c := range []struct {
		s        string
		from, to int
		want     string
	}{
		{two, 1, 2, "-[1 2]; 0[]; 0[5 3 4]; 2[]; 2[]; 2[]"}, {two, 2, 1, "-[1 2]; 0[3 4 5]; 0[]; 1[]; 1[]; 1[]"}, {two, 1, 0, "-[1 2 3 4]; 0[]; 0[5]; 0[]; 0[]; 2[]"}, {two, 2, 3, "-[1 2]; 0[3 4]; 0[]; 1[5]; 1[]; 3[]"}, {two, 3, 1, two}, {two, 3, 5, two},
		{two, 1, 1, two}, {two, 0, 0, two}, {two, 1, 3, two}, {two, 0, 1, two}, {two, 0, 5, two}, {two, 6, 1, two}, {two, 1, 6, two}, {two, -1, 1, two}, {two, 1, -1, two}, {two, 6, 6, two}, {two, -1, -1, two},
		{"-[1]; 0[9 - 2]; 5[]", 1, 0, "-[1 9 - 2]; 0[]; 0[]"}, {"-[1 2]; 0[9]; 0[]", 1, 2, "-[1 2]; 0[]; 0[9]"}, {"-[1 2]; 0[3 3]; 0[3]; 1[]", 1, 2, "-[1 2]; 0[]; 0[3 3 3]; 2[]"}, {"-[1]; 0[2]; 0[]", 1, 0, "-[1 2]; 0[]; 0[]"}, {"-[1]; 0[0 1]", 1, 0, "0[1 0 1]; 0[]"}, {"-[1 2]; 0[2 0]; 0[]", 1, 2, "2[1 2]; 0[]; 2[2 0]"}, {"-[0]; -[]", 0, 1, "1[]; -[0]"}, {"-[]; 2[3]; 1[]; -[]", 1, 2, "-[]; 2[3]; 1[]; -[]"}, {"-[]; 2[3]; 2[4]; -[]; -[]", 1, 2, "-[]; 2[]; 2[4 3]; 2[]; -[]"},
	} {
		lookAt(t, "Move from "+sketch.Number(c.from)+" to "+sketch.Number(c.to), sketch.Read(c.s), sketch.Read(c.want), func(x *api.Tree) { Move(x, c.from, c.to) })
	}
}

// P12.1 to P12.3: all trees of two nodes, whatever their Ups and Kids are, and many of up to seven, held against the models.
func TestModel(t *testing.T) {
	look(t, sketch.Read(odd), []int{-2, -1, 0, 1, 2, 3, 4, 5, 6, 7, 8, 9})
	look(t, api.Tree{}, []int{-1, 0, 1})
	var lists [][]int
	for i := -1; i < 3; i++ {
		for j := -1; j < 3; j++ {
			lists = append(lists, []int{i, j})
		}
		lists = append(lists, []int{i})
	}
	lists = append(lists, nil)
	for _, one := range lists {
		for _, two := range lists {
			for ups := range 16 {
				x := api.Tree{Nodes: []api.Node{{Kind: api.Root, Up: ups%4 - 1, Kids: one}, {Kind: api.Elem, Name: "a", Attrs: []api.Attr{{Name: "b"}}, Up: ups/4 - 1, Kids: two}}}
				look(t, x, []int{-1, 0, 1, 2})
			}
		}
	}
	r := rand.New(rand.NewSource(12))
	for range 1500 {
		x := New()
		for range r.Intn(7) {
			Add(&x, api.Node{Kind: api.Elem, Name: "a"})
		}
		n := len(x.Nodes)
		for i := range x.Nodes {
			x.Nodes[i].Up = r.Intn(n+2) - 1
			for range r.Intn(4) {
				x.Nodes[i].Kids = append(x.Nodes[i].Kids, r.Intn(n+2)-1)
			}
		}
		look(t, x, []int{-1, 0, r.Intn(n), r.Intn(n), n})
	}
}

// P12.4: behind any calls each kid's Up has it once; what is Put, has that Place, or the nearest one.
func TestAnyCalls(t *testing.T) {
	r := rand.New(rand.NewSource(4))
	for range 300 {
		x := New()
		for range 120 {
			n := len(x.Nodes)
			one, two, at := r.Intn(n+2)-1, r.Intn(n+2)-1, r.Intn(8)-2
			switch r.Intn(5) {
			case 0, 1:
				Add(&x, api.Node{Kind: api.Elem, Up: one, Kids: []int{two}})
			case 2:
				Cut(&x, one)
			case 3:
				may := modelIs(x, one) && modelIs(x, two) && two != 0 && !modelHolds(x, two, one)
				Put(&x, one, at, two)
				if may && (Place(x, two) != max(0, min(at, len(x.Nodes[one].Kids)-1)) || !Holds(x, one, two)) {
					t.Fatalf("Put of %d into %d at %d has the place %d", two, one, at, Place(x, two))
				}
			case 4:
				Move(&x, one, two)
			}
			lookOnce(t, x)
		}
	}
}

// lookOnce holds that each node's Up has it once, if it has one, and that no other one has it.
func lookOnce(t *testing.T, x api.Tree) {
	t.Helper()
	had := map[int]int{}
	for i, n := range x.Nodes {
		for _, kid := range n.Kids {
			had[kid]++
			if x.Nodes[kid].Up != i {
				t.Fatalf("%d is a kid of %d, and its Up is %d", kid, i, x.Nodes[kid].Up)
			}
		}
	}
	for i, n := range x.Nodes {
		if n.Up < 0 && had[i] != 0 || n.Up >= 0 && had[i] != 1 {
			t.Fatalf("%d, whose Up is %d, is a kid %d times", i, n.Up, had[i])
		}
	}
}

// Rules: what is handed in stays as it is, and is not kept; what lies behind a list plays no part, and stays, too.
func TestKeepsApart(t *testing.T) {
	x := New()
	attrs, kids := []api.Attr{{Name: "a", Value: "1"}}, []int{3}
	n := api.Node{Kind: api.Elem, Name: "e", Attrs: attrs, Up: 4, Kids: kids}
	Add(&x, n)
	Add(&x, n)
	attrs[0].Value = "2"
	x.Nodes[1].Attrs[0].Name = "b"
	if x.Nodes[1].Attrs[0].Value != "1" || x.Nodes[2].Attrs[0].Name != "a" || attrs[0].Name != "a" || n.Up != 4 || kids[0] != 3 {
		t.Errorf("attributes are shared: %+v, %+v", x, n)
	}
	nodes := sketch.Read("-[1]; 0[]; 7[6]; 8[]").Nodes
	y := api.Tree{Nodes: nodes[:2]}
	if Place(y, 2) != -1 || Holds(y, 2, 2) {
		t.Error("what lies behind the nodes is seen")
	}
	Put(&y, 0, 0, 2)
	Move(&y, 0, 2)
	if i := Add(&y, api.Node{}); i != 2 || sketch.Write(api.Tree{Nodes: nodes}) != "-[1]; 0[]; 7[6]; 8[]" {
		t.Errorf("what lies behind the nodes was changed: %s", sketch.Write(api.Tree{Nodes: nodes}))
	}
}

// Rules: lists that one tree has from another one grow apart.
func TestGrowApart(t *testing.T) {
	x := New()
	for range 9 {
		Put(&x, 0, 99, Add(&x, api.Node{Kind: api.Elem}))
		y, z := sketch.Copy(x), sketch.Copy(x)
		y.Nodes[0].Kids, z.Nodes[0].Kids = x.Nodes[0].Kids, x.Nodes[0].Kids
		was := sketch.Write(x)
		for i, one := range []*api.Tree{&y, &z} {
			for range i + 1 {
				Put(one, 0, 99, Add(one, api.Node{Kind: api.Elem}))
			}
			Put(one, 0, 0, 1)
		}
		n := len(x.Nodes)
		if sketch.Write(x) != was || len(y.Nodes[0].Kids) != n || len(z.Nodes[0].Kids) != n+1 || y.Nodes[0].Kids[n-1] != n || z.Nodes[0].Kids[n-1] != n || z.Nodes[0].Kids[n] != n+1 {
			t.Fatalf("%s and %s come of %s", sketch.Write(y), sketch.Write(z), was)
		}
		y.Nodes, z.Nodes = x.Nodes, x.Nodes
		Add(&y, api.Node{Name: "y"})
		Add(&z, api.Node{Name: "z"})
		if y.Nodes[n].Name != "y" || z.Nodes[n].Name != "z" || len(x.Nodes) != n {
			t.Fatalf("%+v and %+v come of one tree", y, z)
		}
	}
}

// P0: no tree at all is changed, and nothing is added to it.
func TestNoTree(t *testing.T) {
	if i := Add(nil, api.Node{}); i != -1 {
		t.Errorf("a node of no tree has the number %d", i)
	}
	Cut(nil, 0)
	Cut(nil, 1)
	Put(nil, 0, 0, 1)
	Move(nil, 0, 1)
}

// P0: great trees, flat, deep and round, are dealt with soon.
func TestGreat(t *testing.T) {
	const many = 1 << 20
	flat := New()
	for range many {
		Put(&flat, 0, math.MaxInt, Add(&flat, api.Node{Kind: api.Elem}))
	}
	if got := Place(flat, many); got != many-1 || !Holds(flat, 0, many) {
		t.Errorf("the last one has the place %d", got)
	}
	to := Add(&flat, api.Node{Kind: api.Elem})
	Put(&flat, 0, 0, to)
	Cut(&flat, many/2)
	Put(&flat, many/2, 0, to)
	Move(&flat, 0, to)
	if len(flat.Nodes[to].Kids) != many-1 || flat.Nodes[many].Up != to || len(flat.Nodes[0].Kids) != 0 {
		t.Errorf("%d kids were moved", len(flat.Nodes[to].Kids))
	}
	deep := New()
	for i := range many {
		Add(&deep, api.Node{Kind: api.Elem})
		deep.Nodes[i+1].Up, deep.Nodes[i].Kids = i, []int{i + 1}
	}
	Put(&deep, many, 0, 1)
	Move(&deep, 0, many)
	if !Holds(deep, 0, many) || Holds(deep, many, 0) || deep.Nodes[1].Up != 0 {
		t.Error("a deep tree is not so any more")
	}
	other := Add(&deep, api.Node{Kind: api.Elem})
	Put(&deep, many, 0, other)
	deep.Nodes[0].Up = many
	for _, up := range []int{0, 1, many / 2, many} {
		if !Holds(deep, up, 0) || !Holds(deep, up, many) || !Holds(deep, up, other) || Holds(deep, other, up) {
			t.Errorf("in a round %d does not hold all", up)
		}
	}
}
