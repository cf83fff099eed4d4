package shape

import (
	"math"
	"math/rand"
	"slices"
	"testing"

	"hoarding/api"
	"hoarding/sketch"
	"hoarding/tree"
)

// The calls by the chapter's words.

func modelRight(t api.Tree) bool {
	if len(t.Nodes) == 0 || t.Nodes[0].Kind != api.Root || t.Nodes[0].Up != -1 {
		return false
	}
	for i, n := range t.Nodes {
		if i > 0 && n.Kind != api.Elem && n.Kind != api.Chars && n.Kind != api.Remark && n.Kind != api.Type {
			return false
		}
		if n.Up != -1 && !modelIn(t, n.Up, i) {
			return false
		}
		for _, kid := range n.Kids {
			if kid < 0 || kid >= len(t.Nodes) || t.Nodes[kid].Up != i {
				return false
			}
		}
		above := i
		for range t.Nodes {
			if above >= 0 && above < len(t.Nodes) {
				above = t.Nodes[above].Up
			}
		}
		if above != -1 {
			return false
		}
	}
	return true
}

// modelIn tells whether up is an element or the root, with i among its Kids once.
func modelIn(t api.Tree, up, i int) bool {
	if up < 0 || up >= len(t.Nodes) || up > 0 && t.Nodes[up].Kind != api.Elem {
		return false
	}
	times := 0
	for _, kid := range t.Nodes[up].Kids {
		if kid == i {
			times++
		}
	}
	return times == 1
}

// modelTidy tells for each node of the tidy tree what it was in t, too.
func modelTidy(t api.Tree) (api.Tree, []int) {
	if len(t.Nodes) == 0 {
		return api.Tree{Nodes: []api.Node{{Kind: api.Root, Up: -1}}}, nil
	}
	var tidy api.Tree
	var was []int
	var into func(i, up int)
	into = func(i, up int) {
		if i < 0 || i >= len(t.Nodes) || slices.Contains(was, i) {
			return
		}
		at := len(was)
		if up >= 0 {
			tidy.Nodes[up].Kids = append(tidy.Nodes[up].Kids, at)
		}
		n := t.Nodes[i]
		n.Up, n.Kids = up, nil
		was, tidy.Nodes = append(was, i), append(tidy.Nodes, n)
		for _, kid := range t.Nodes[i].Kids {
			into(kid, at)
		}
	}
	into(0, -1)
	return tidy, was
}

func modelSub(t api.Tree, i int) api.Tree {
	sub := api.Tree{Nodes: []api.Node{{Kind: api.Root, Up: -1}}}
	tidy, was := modelTidy(t)
	var from func(one, to int)
	from = func(one, to int) {
		for _, kid := range tidy.Nodes[one].Kids {
			n, at := tidy.Nodes[kid], len(sub.Nodes)
			n.Up, n.Kids = to, nil
			sub.Nodes = append(sub.Nodes, n)
			sub.Nodes[to].Kids = append(sub.Nodes[to].Kids, at)
			from(kid, at)
		}
	}
	if at := slices.Index(was, i); at >= 0 {
		from(at, 0)
	}
	return sub
}

// look holds all that is told of x against the models, and among itself.
func look(t *testing.T, x api.Tree) {
	t.Helper()
	if got, want := Right(x), modelRight(x); got != want {
		t.Fatalf("%s is Right: %v (%+v)", sketch.Write(x), got, x)
	}
	want, was := modelTidy(x)
	got := Tidy(x)
	if !sketch.Alike(got, want) {
		t.Fatalf("Tidy of %s is %+v, not %+v", sketch.Write(x), got, want)
	}
	if Size(x) != len(was) {
		t.Fatalf("Size of %s is %d, not %d", sketch.Write(x), Size(x), len(was))
	}
	if again := Tidy(got); !sketch.Alike(again, got) {
		t.Fatalf("Tidy of %s is %s", sketch.Write(got), sketch.Write(again))
	}
	if Right(x) && !Right(got) {
		t.Fatalf("%s is Right, and not its Tidy", sketch.Write(x))
	}
	if !Same(x, x) || !Same(x, got) || !Same(got, x) {
		t.Fatalf("%s is not the Same as its Tidy", sketch.Write(x))
	}
	for i := -2; i < len(x.Nodes)+2; i++ {
		if got, want := Sub(x, i), modelSub(x, i); !sketch.Alike(got, want) {
			t.Fatalf("Sub of %d in %s is %+v, not %+v", i, sketch.Write(x), got, want)
		}
	}
}

// plain is a tree of each Kind: an element with text and a remark in it, a doctype; and an element that is in nothing, with one in it.
func plain() api.Tree {
	x := sketch.Read("-[4 1]; 0[2 3]; 1[]; 1[]; 0[]; -[6]; 5[]")
	x.Nodes[1].Space, x.Nodes[1].Attrs = api.Svg, []api.Attr{{Name: "a", Value: "1"}, {Name: "b"}}
	x.Nodes[2].Kind, x.Nodes[2].Data = api.Chars, "text"
	x.Nodes[3].Kind, x.Nodes[3].Data = api.Remark, "note"
	x.Nodes[4].Kind, x.Nodes[4].Name = api.Type, "html"
	return x
}

// P14.1: Right, where one thing of a tree that is Right is another one.
func TestRight(t *testing.T) {
	if !Right(plain()) || !Right(tree.New()) || Right(api.Tree{}) || Right(api.Tree{Nodes: []api.Node{}}) {
		t.Error("trees that may be, may not, or no nodes may")
	}
	for i, c := range []struct {
		change func(n []api.Node)
		want   bool
	}{
		{func(n []api.Node) { n[0].Kind = api.Elem }, false}, {func(n []api.Node) { n[0].Kind = api.Chars }, false}, {func(n []api.Node) { n[0].Kind = -1 }, false}, {func(n []api.Node) { n[0].Kind = 5 }, false},
		{func(n []api.Node) { n[0].Up = 0 }, false}, {func(n []api.Node) { n[0].Up = -2 }, false}, {func(n []api.Node) { n[0].Up = 5 }, false}, {func(n []api.Node) { n[0].Up = 99 }, false}, {func(n []api.Node) { n[0].Up, n[5].Kids = 5, []int{6, 0} }, false},
		{func(n []api.Node) { n[0].Name, n[0].Space, n[0].Data, n[0].Attrs = "x", 9, "y", n[1].Attrs }, true},
		// Each Kind, and what is none; of a leaf, and of one with Kids.
		{func(n []api.Node) { n[2].Kind = api.Elem }, true}, {func(n []api.Node) { n[2].Kind = api.Remark }, true}, {func(n []api.Node) { n[2].Kind = api.Type }, true}, {func(n []api.Node) { n[2].Kind = api.Root }, false}, {func(n []api.Node) { n[2].Kind = 5 }, false}, {func(n []api.Node) { n[2].Kind = -1 }, false}, {func(n []api.Node) { n[2].Kind = math.MaxInt }, false}, {func(n []api.Node) { n[2].Kind = math.MinInt }, false},
		{func(n []api.Node) { n[1].Kind = api.Root }, false}, {func(n []api.Node) { n[1].Kind = api.Chars }, false}, {func(n []api.Node) { n[1].Kind = api.Remark }, false}, {func(n []api.Node) { n[1].Kind = api.Type }, false}, {func(n []api.Node) { n[1].Kind = 5 }, false}, {func(n []api.Node) { n[5].Kind = api.Root }, false}, {func(n []api.Node) { n[5].Kind = api.Chars }, false}, {func(n []api.Node) { n[6].Kind = api.Chars }, true}, {func(n []api.Node) { n[6].Kind = 5 }, false}, {func(n []api.Node) { n[5].Kind, n[5].Kids, n[6].Up = api.Chars, nil, -1 }, true},
		// Spaces, names and the like play no part.
		{func(n []api.Node) { n[1].Space, n[2].Space = 7, -1 }, true}, {func(n []api.Node) { n[1].Name, n[2].Name, n[1].Data = "", "x", "y" }, true}, {func(n []api.Node) { n[2].Attrs = []api.Attr{{}, {}} }, true},
		// Ups that are no node, or where it is not among the Kids, or not once.
		{func(n []api.Node) { n[6].Up = 7 }, false}, {func(n []api.Node) { n[6].Up, n[5].Kids = 7, nil }, false}, {func(n []api.Node) { n[6].Up, n[5].Kids = -2, nil }, false}, {func(n []api.Node) { n[6].Up, n[5].Kids = math.MinInt, nil }, false}, {func(n []api.Node) { n[6].Up = -1 }, false}, {func(n []api.Node) { n[6].Up, n[5].Kids = -1, nil }, true}, {func(n []api.Node) { n[5].Kids = nil }, false}, {func(n []api.Node) { n[5].Kids = []int{6, 6} }, false}, {func(n []api.Node) { n[0].Kids = []int{1, 4, 1} }, false}, {func(n []api.Node) { n[0].Kids = []int{1, 4} }, true}, {func(n []api.Node) { n[0].Kids = []int{1} }, false}, {func(n []api.Node) { n[1].Kids = []int{3, 2} }, true}, {func(n []api.Node) { n[6].Up = 1 }, false}, {func(n []api.Node) { n[5].Up = 0 }, false},
		{func(n []api.Node) { n[0].Kids, n[5].Kids, n[6].Up, n[6].Kids = []int{4, 4, 1}, nil, 6, []int{6} }, false},
		{func(n []api.Node) { n[6].Up, n[5].Kids, n[1].Kids = 1, nil, []int{2, 6, 3} }, true}, {func(n []api.Node) { n[5].Up, n[0].Kids = 0, []int{4, 1, 5} }, true},
		// Ups that are text, remark or type.
		{func(n []api.Node) { n[6].Up, n[5].Kids, n[2].Kids = 2, nil, []int{6} }, false}, {func(n []api.Node) { n[6].Up, n[5].Kids, n[3].Kids = 3, nil, []int{6} }, false}, {func(n []api.Node) { n[6].Up, n[5].Kids, n[4].Kids = 4, nil, []int{6} }, false}, {func(n []api.Node) { n[6].Up, n[5].Kids, n[2].Kids, n[2].Kind = 2, nil, []int{6}, api.Elem }, true},
		// Kids that are no node, or whose Up is another.
		{func(n []api.Node) { n[6].Kids = []int{7} }, false}, {func(n []api.Node) { n[6].Kids = []int{-1} }, false}, {func(n []api.Node) { n[2].Kids = []int{math.MaxInt} }, false}, {func(n []api.Node) { n[2].Kids = []int{math.MinInt} }, false}, {func(n []api.Node) { n[6].Kids = []int{2} }, false}, {func(n []api.Node) { n[2].Kids = []int{3} }, false}, {func(n []api.Node) { n[6].Kids = []int{0} }, false}, {func(n []api.Node) { n[6].Kids = []int{5} }, false}, {func(n []api.Node) { n[0].Kids = []int{4, 1, 5} }, false}, {func(n []api.Node) { n[0].Kids = []int{4, 1, 6} }, false}, {func(n []api.Node) { n[0].Kids = []int{0, 4, 1} }, false}, {func(n []api.Node) { n[6].Kids = []int{6} }, false},
		// Ups that lead back to themselves.
		{func(n []api.Node) { n[5].Up, n[6].Kids = 6, []int{5} }, false}, {func(n []api.Node) { n[5].Up, n[5].Kids = 5, []int{5, 6} }, false}, {func(n []api.Node) { n[6].Up, n[6].Kids, n[5].Kids = 6, []int{6}, nil }, false}, {func(n []api.Node) { n[1].Up, n[5].Kids, n[0].Kids = 5, []int{6, 1}, []int{4} }, true},
	} {
		x := plain()
		c.change(x.Nodes)
		if got := Right(x); got != c.want {
			t.Errorf("%d: %s is Right: %v", i, sketch.Write(x), got)
		}
		look(t, x)
	}
}

// P14.2: Tidy and Size, of trees and of odd ones; each node has its name and all else.
func TestTidy(t *testing.T) {
	for _, c := range []struct {
		s, want string
		was     []int
	}{
		{"", "-[]", nil}, {"-[]", "-[]", []int{0}}, {"-[1]; 0[]", "-[1]; 0[]", []int{0, 1}},
		{"-[1 2]; 0[3]; 0[]; 1[]", "-[1 3]; 0[2]; 1[]; 0[]", []int{0, 1, 3, 2}}, {"-[1 3]; 0[2]; 1[]; 0[]", "-[1 3]; 0[2]; 1[]; 0[]", []int{0, 1, 2, 3}}, {"-[3 1]; 0[4]; 3[]; 0[2]; 1[]", "-[1 3]; 0[2]; 1[]; 0[4]; 3[]", []int{0, 3, 2, 1, 4}},
		{"7[1]; 5[2]; -[]", "-[1]; 0[2]; 1[]", []int{0, 1, 2}}, {"-[2]; 0[2]; 0[]", "-[1]; 0[]", []int{0, 2}}, {"-[9 - 1 --]; 0[99]", "-[1]; 0[]", []int{0, 1}}, {"0[0]", "-[]", []int{0}}, {"-[1 1]; 0[1 0]", "-[1]; 0[]", []int{0, 1}},
		{"-[1 2]; 0[3]; 0[3]; 2[]", "-[1 3]; 0[2]; 1[]; 0[]", []int{0, 1, 3, 2}}, {"-[1]; 2[2]; 1[1]", "-[1]; 0[2]; 1[]", []int{0, 1, 2}}, {"-[]; 2[2]; 1[1]", "-[]", []int{0}}, {"-[]; -[]; -[]", "-[]", []int{0}}, {"-[2 1]; 0[2]; 0[]", "-[1 2]; 0[]; 0[]", []int{0, 2, 1}},
	} {
		x := sketch.Read(c.s)
		got := Tidy(x)
		if sketch.Write(got) != c.want || Size(x) != len(c.was) {
			t.Errorf("Tidy of %q is %q, of the Size %d", c.s, sketch.Write(got), Size(x))
			continue
		}
		for at, i := range c.was {
			if got.Nodes[at].Name != x.Nodes[i].Name {
				t.Errorf("Tidy of %q has %s at %d", c.s, got.Nodes[at].Name, at)
			}
		}
		look(t, x)
	}
	x := plain()
	x.Nodes[0] = api.Node{Kind: 9, Space: 8, Name: "n", Attrs: []api.Attr{{Name: "a"}}, Data: "d", Up: 7, Kids: x.Nodes[0].Kids}
	want := sketch.Copy(api.Tree{Nodes: []api.Node{x.Nodes[0], x.Nodes[4], x.Nodes[1], x.Nodes[2], x.Nodes[3]}})
	want.Nodes[0].Up, want.Nodes[0].Kids, want.Nodes[2].Kids, want.Nodes[3].Up, want.Nodes[4].Up = -1, []int{1, 2}, []int{3, 4}, 2, 2
	if got := Tidy(x); !sketch.Alike(got, want) {
		t.Errorf("Tidy is %+v, not %+v", got, want)
	}
}

// P14.2: Same, where one thing of one tree is another one.
func TestSame(t *testing.T) {
	if !Same(api.Tree{}, api.Tree{}) || !Same(api.Tree{}, tree.New()) || !Same(tree.New(), api.Tree{}) || Same(plain(), tree.New()) || Same(tree.New(), plain()) || Same(plain(), api.Tree{}) {
		t.Error("no nodes are not as a new tree, or others are")
	}
	for i, c := range []struct {
		change func(n []api.Node)
		want   bool
	}{
		{func(n []api.Node) {}, true},
		{func(n []api.Node) { n[2].Kind = api.Remark }, false}, {func(n []api.Node) { n[2].Space = api.Svg }, false}, {func(n []api.Node) { n[1].Name = "x" }, false}, {func(n []api.Node) { n[2].Name = "x" }, false}, {func(n []api.Node) { n[2].Data = "Text" }, false}, {func(n []api.Node) { n[1].Data = "x" }, false},
		{func(n []api.Node) { n[0].Kind = api.Elem }, false}, {func(n []api.Node) { n[0].Space = 1 }, false}, {func(n []api.Node) { n[0].Name = "x" }, false}, {func(n []api.Node) { n[0].Data = "x" }, false}, {func(n []api.Node) { n[0].Attrs = n[1].Attrs }, false},
		{func(n []api.Node) { n[1].Attrs[0].Name = "x" }, false}, {func(n []api.Node) { n[1].Attrs[1].Value = "x" }, false}, {func(n []api.Node) { n[1].Attrs = n[1].Attrs[:1] }, false}, {func(n []api.Node) { slices.Reverse(n[1].Attrs) }, false}, {func(n []api.Node) { n[1].Attrs = append(n[1].Attrs, api.Attr{Name: "b"}) }, false}, {func(n []api.Node) { n[2].Attrs = []api.Attr{} }, true}, {func(n []api.Node) { n[2].Attrs = []api.Attr{{}} }, false},
		{func(n []api.Node) { n[0].Kids = []int{1, 4} }, false}, {func(n []api.Node) { n[1].Kids = []int{3, 2} }, false}, {func(n []api.Node) { n[1].Kids = []int{2} }, false}, {func(n []api.Node) { n[1].Kids = []int{2, 3, 6} }, false}, {func(n []api.Node) { n[0].Kids, n[1].Kids = []int{4, 1, 3}, []int{2} }, false}, {func(n []api.Node) { n[1].Kids, n[2].Kids = []int{2}, []int{3} }, false}, {func(n []api.Node) { n[0].Kids = []int{4} }, false},
		// What plays no part: Ups, Kids that are passed over, nodes that are not gone into.
		{func(n []api.Node) { n[0].Up, n[1].Up, n[2].Up = 5, 4, -1 }, true}, {func(n []api.Node) { n[0].Kids = []int{9, 4, -1, 4, 1, 3, 0, 1} }, true}, {func(n []api.Node) { n[2].Kids = []int{1, 2} }, true}, {func(n []api.Node) { n[5], n[6] = api.Node{}, api.Node{Name: "x", Kids: []int{1}} }, true},
		// Other numbers.
		{func(n []api.Node) { n[6], n[1].Kids = n[2], []int{6, 3} }, true}, {func(n []api.Node) { n[2], n[3], n[1].Kids = n[3], n[2], []int{3, 2} }, true}, {func(n []api.Node) { n[2], n[3] = n[3], n[2] }, false},
	} {
		x, y := plain(), plain()
		c.change(y.Nodes)
		if Same(x, y) != c.want || Same(y, x) != c.want || Same(Tidy(x), y) != c.want || Same(y, Tidy(x)) != c.want {
			t.Errorf("%d: %+v and %+v are the Same: %v", i, x, y, !c.want)
		}
		if !Same(y, y) || !Same(Tidy(y), y) || !Same(y, Tidy(y)) {
			t.Errorf("%d: %+v is not the Same as its Tidy", i, y)
		}
	}
}

// P14.2: Sub.
func TestSub(t *testing.T) {
	const s = "-[1 5]; 0[2 4]; 1[3]; 2[]; 1[]; 0[]; -[7]; 6[]"
	for _, c := range []struct {
		s    string
		i    int
		want string
		was  []int
	}{
		{s, 0, "-[1 5]; 0[2 4]; 1[3]; 2[]; 1[]; 0[]", []int{1, 2, 3, 4, 5}}, {s, 1, "-[1 3]; 0[2]; 1[]; 0[]", []int{2, 3, 4}}, {s, 2, "-[1]; 0[]", []int{3}}, {s, 3, "-[]", nil}, {s, 4, "-[]", nil}, {s, 5, "-[]", nil},
		{s, 6, "-[]", nil}, {s, 7, "-[]", nil}, {s, 8, "-[]", nil}, {s, -1, "-[]", nil}, {s, math.MaxInt, "-[]", nil}, {s, math.MinInt, "-[]", nil},
		{"", 0, "-[]", nil}, {"", -1, "-[]", nil}, {"-[]", 0, "-[]", nil}, {"0[0]", 0, "-[]", nil},
		{"-[3 1]; 0[4]; 3[]; 0[2]; 1[5]; -[]", 1, "-[1]; 0[2]; 1[]", []int{4, 5}}, {"-[3 1]; 0[4]; 3[]; 0[2]; 1[]", 0, "-[1 3]; 0[2]; 1[]; 0[4]; 3[]", []int{3, 2, 1, 4}}, {"-[1]; 0[9 0 2 1 2]; 0[1]", 1, "-[1]; 0[]", []int{2}}, {"-[1 2]; 0[3]; 0[3]; 2[]", 2, "-[]", nil}, {"-[1 2]; 0[3]; 0[3]; 2[]", 1, "-[1]; 0[]", []int{3}},
	} {
		x := sketch.Read(c.s)
		for i := range x.Nodes {
			x.Nodes[i].Attrs, x.Nodes[i].Data, x.Nodes[i].Space = []api.Attr{{Name: sketch.Number(i)}}, "d", i
		}
		got := Sub(x, c.i)
		if sketch.Write(got) != c.want || Size(got) != len(c.was)+1 {
			t.Errorf("Sub of %d in %q is %q", c.i, c.s, sketch.Write(got))
			continue
		}
		for at, i := range append([]int{-1}, c.was...) {
			n, want := got.Nodes[at], api.Node{Kind: api.Root}
			if i >= 0 {
				want = x.Nodes[i]
			}
			want.Up, want.Kids = n.Up, n.Kids
			if !sketch.Alike(api.Tree{Nodes: []api.Node{n}}, api.Tree{Nodes: []api.Node{want}}) {
				t.Errorf("Sub of %d in %q has %+v at %d", c.i, c.s, n, at)
			}
		}
		look(t, x)
	}
}

// P14.1 to P14.3: all trees of two nodes with up to two Kids each, and many of up to nine, right ones and others, held against the models.
func TestModel(t *testing.T) {
	look(t, api.Tree{})
	var lists [][]int
	for i := -2; i < 3; i++ {
		for j := -2; j < 3; j++ {
			lists = append(lists, slices.DeleteFunc([]int{i, j}, func(kid int) bool { return kid == -2 }))
		}
	}
	for _, one := range lists {
		for _, two := range lists {
			for ups := range 16 {
				for _, kinds := range [][]int{{api.Root, api.Elem}, {api.Root, api.Chars}, {api.Root, api.Root}, {api.Elem, api.Elem}} {
					look(t, api.Tree{Nodes: []api.Node{{Kind: kinds[0], Up: ups%4 - 1, Kids: one}, {Kind: kinds[1], Name: "a", Up: ups/4 - 1, Kids: two}}})
				}
			}
		}
	}
	r := rand.New(rand.NewSource(14))
	rights := 0
	for range 4000 {
		x := randomTree(r)
		look(t, x)
		for range r.Intn(3) {
			spoil(r, x)
		}
		look(t, x)
		if Right(x) {
			rights++
		}
	}
	if rights < 1000 || rights > 3500 {
		t.Errorf("of the trees %d are Right", rights)
	}
}

// randomTree is a tree that is Right, its numbers in any order.
func randomTree(r *rand.Rand) api.Tree {
	x := tree.New()
	for range r.Intn(9) {
		kid := tree.Add(&x, api.Node{Kind: 1 + r.Intn(4), Name: sketch.Number(len(x.Nodes)), Data: "d", Attrs: make([]api.Attr, r.Intn(3))})
		up := r.Intn(kid)
		if up == 0 || x.Nodes[up].Kind == api.Elem {
			tree.Put(&x, up, r.Intn(4), kid)
		}
	}
	return x
}

// spoil makes one thing of x another one.
func spoil(r *rand.Rand, x api.Tree) {
	n := &x.Nodes[r.Intn(len(x.Nodes))]
	switch r.Intn(4) {
	case 0:
		n.Up = r.Intn(len(x.Nodes)+2) - 1
	case 1:
		n.Kind = r.Intn(7) - 1
	case 2:
		n.Kids = append(n.Kids, r.Intn(len(x.Nodes)+2)-1)
	default:
		r.Shuffle(len(n.Kids), func(i, j int) { n.Kids[i], n.Kids[j] = n.Kids[j], n.Kids[i] })
	}
}

// P14.3: Same goes both ways, and on.
func TestSameGoesOn(t *testing.T) {
	r := rand.New(rand.NewSource(3))
	for range 400 {
		var trees []api.Tree
		for range 8 {
			x := api.Tree{Nodes: make([]api.Node, 1+r.Intn(3))}
			for i := range x.Nodes {
				x.Nodes[i].Up = -1
				for range r.Intn(3) {
					x.Nodes[i].Kids = append(x.Nodes[i].Kids, r.Intn(4))
				}
			}
			trees = append(trees, x, Tidy(x))
		}
		for _, a := range trees {
			for _, b := range trees {
				one, _ := modelTidy(a)
				two, _ := modelTidy(b)
				if got := Same(a, b); got != Same(b, a) || got != sketch.Alike(one, two) {
					t.Fatalf("%s and %s are the Same: %v", sketch.Write(a), sketch.Write(b), got)
				}
			}
		}
	}
}

// Rules: no call changes the tree; what lies behind its lists plays no part; what is told shares no list with it, or within itself.
func TestKeepsApart(t *testing.T) {
	r := rand.New(rand.NewSource(5))
	for range 200 {
		x := randomTree(r)
		spoil(r, x)
		stays := sketch.Stays(x, func(x api.Tree) {
			look(t, x)
			for _, told := range []api.Tree{Tidy(x), Sub(x, 0), Sub(x, 1), Tidy(x)} {
				want := sketch.Copy(told)
				scribble(told, func(n *api.Node) {
					_ = append(n.Kids, 98)
					_ = append(n.Attrs, api.Attr{Name: "98"})
				})
				if !sketch.Alike(told, want) {
					t.Fatalf("%+v shares lists within itself", told)
				}
				scribble(told, func(n *api.Node) {
					for i := range n.Kids {
						n.Kids[i] = 99
					}
					for i := range n.Attrs {
						n.Attrs[i].Value = "99"
					}
				})
			}
		})
		if !stays {
			t.Fatalf("%s is changed", sketch.Write(x))
		}
	}
	nodes := sketch.Read("-[1 2]; 0[2]; 0[]").Nodes
	look(t, api.Tree{Nodes: nodes[:2]})
	if got := Tidy(api.Tree{Nodes: nodes[:2]}); sketch.Write(got) != "-[1]; 0[]" {
		t.Errorf("what lies behind the nodes is gone through: %s", sketch.Write(got))
	}
	Sub(api.Tree{}, 0).Nodes[0].Name = "x"
	if Sub(api.Tree{}, 0).Nodes[0].Name != "" || Tidy(api.Tree{}).Nodes[0].Name != "" {
		t.Error("what was told before is told again")
	}
}

// scribble does to each node of told what is said.
func scribble(told api.Tree, do func(n *api.Node)) {
	for i := range told.Nodes {
		do(&told.Nodes[i])
	}
}

// P0: great trees, flat, deep, and odd, are dealt with soon.
func TestGreat(t *testing.T) {
	const many = 1 << 20
	flat := api.Tree{Nodes: make([]api.Node, many+1)}
	deep := api.Tree{Nodes: make([]api.Node, many+1)}
	ring := api.Tree{Nodes: make([]api.Node, many+1)}
	for i := range many {
		flat.Nodes[0].Kids = append(flat.Nodes[0].Kids, i+1)
		flat.Nodes[i+1] = api.Node{Kind: api.Chars, Data: "x"}
		deep.Nodes[i].Kids, deep.Nodes[i+1] = []int{i + 1}, api.Node{Kind: api.Elem, Up: i}
		ring.Nodes[i+1] = api.Node{Kind: api.Elem, Up: 1 + (i+1)%many, Kids: []int{1 + (i+many-1)%many}}
	}
	for _, x := range []api.Tree{flat, deep, ring} {
		x.Nodes[0].Up = -1
	}
	if !Right(flat) || !Right(deep) || Right(ring) {
		t.Error("great trees are not told rightly")
	}
	for _, x := range []api.Tree{flat, deep} {
		if got := Tidy(x); !sketch.Alike(got, x) || Size(got) != many+1 || !Same(got, x) {
			t.Errorf("a great tree became one of %d", len(got.Nodes))
		}
		if got := Sub(x, 0); !sketch.Alike(got, x) {
			t.Errorf("Sub of the root is of %d", len(got.Nodes))
		}
	}
	if got := Sub(deep, many/2); len(got.Nodes) != many/2+1 || got.Nodes[many/2].Up != many/2-1 {
		t.Errorf("Sub of a deep tree is of %d", len(got.Nodes))
	}
	deep.Nodes[many].Kids = []int{many}
	if len(Tidy(ring).Nodes) != 1 || len(Sub(ring, 1).Nodes) != 1 || Size(ring) != 1 || Right(deep) {
		t.Error("a ring hangs on the root")
	}
}
