package order

import (
	"math"
	"math/rand"
	"slices"
	"testing"

	"hoarding/api"
	"hoarding/sketch"
)

// gone is a tree as it is gone through by the chapter's words.
type gone struct {
	list  []int
	marks []complex128
	paths map[int][]int
	deep  int
	count int
}

// model goes through t from node 0 on.
func model(t api.Tree) *gone {
	g := &gone{paths: map[int][]int{}}
	for range t.Nodes {
		g.marks = append(g.marks, complex(-1, -1))
	}
	g.into(t, 0, nil)
	return g
}

// into goes into i, which is in these nodes, if it is a node, and was not gone into already.
func (g *gone) into(t api.Tree, i int, path []int) {
	_, was := g.paths[i]
	if i < 0 || i >= len(t.Nodes) || was {
		return
	}
	g.list = append(g.list, i)
	g.paths[i] = slices.Clone(path)
	g.deep = max(g.deep, len(path))
	begin := g.count
	g.count++
	for _, kid := range t.Nodes[i].Kids {
		g.into(t, kid, append(slices.Clone(path), i))
	}
	g.marks[i] = complex(float64(begin), float64(g.count))
	g.count++
}

// look holds all that is told of t against the model, and among itself.
func look(t *testing.T, x api.Tree) {
	t.Helper()
	want := model(x)
	if got := List(x); !slices.Equal(got, want.list) {
		t.Fatalf("List of %s is %v, not %v", sketch.Write(x), got, want.list)
	}
	if got := Deep(x); got != want.deep {
		t.Fatalf("Deep of %s is %d, not %d", sketch.Write(x), got, want.deep)
	}
	marks := Marks(x)
	if !slices.Equal(marks, want.marks) {
		t.Fatalf("Marks of %s are %v, not %v", sketch.Write(x), marks, want.marks)
	}
	for i := -2; i < len(x.Nodes)+2; i++ {
		if got := Path(x, i); !slices.Equal(got, want.paths[i]) {
			t.Fatalf("Path of %d in %s is %v, not %v", i, sketch.Write(x), got, want.paths[i])
		}
	}
	lookInside(t, x, marks)
}

// lookInside holds that marks do not overlap, and that Path is what a node is Inside, the outermost first.
func lookInside(t *testing.T, x api.Tree, marks []complex128) {
	t.Helper()
	for i, a := range marks {
		var around []int
		for j, b := range marks {
			if Inside(a, b) {
				around = append(around, j)
			}
			apart := imag(a) < real(b) || imag(b) < real(a)
			if i != j && real(a) >= 0 && real(b) >= 0 && count(Inside(a, b), Inside(b, a), apart) != 1 {
				t.Fatalf("in %s the marks %v and %v overlap", sketch.Write(x), a, b)
			}
		}
		slices.SortFunc(around, func(i, j int) int { return int(real(marks[i]) - real(marks[j])) })
		if got := Path(x, i); !slices.Equal(got, around) {
			t.Fatalf("in %s %d is Inside %v, and its Path is %v", sketch.Write(x), i, around, got)
		}
	}
}

// count is how many of these are so.
func count(are ...bool) int {
	n := 0
	for _, is := range are {
		if is {
			n++
		}
	}
	return n
}

// The mark of a node that was not gone into.
const no = -1 - 1i

// orders are trees, and what is told of them; Path is by number.
var orders = []struct {
	s     string
	list  []int
	marks []complex128
	deep  int
	paths [][]int
}{
	{"", nil, nil, 0, nil},
	{"-[]", []int{0}, []complex128{0 + 1i}, 0, [][]int{nil}},
	{"-[1]; 0[]", []int{0, 1}, []complex128{0 + 3i, 1 + 2i}, 1, [][]int{nil, {0}}},
	// Within one another, side by side, and both.
	{"-[1]; 0[2]; 1[3]; 2[]", []int{0, 1, 2, 3}, []complex128{0 + 7i, 1 + 6i, 2 + 5i, 3 + 4i}, 3, [][]int{nil, {0}, {0, 1}, {0, 1, 2}}},
	{"-[1 2 3]; 0[]; 0[]; 0[]", []int{0, 1, 2, 3}, []complex128{0 + 7i, 1 + 2i, 3 + 4i, 5 + 6i}, 1, [][]int{nil, {0}, {0}, {0}}},
	{"-[3 1]; 0[4]; 3[]; 0[2]; 1[]", []int{0, 3, 2, 1, 4}, []complex128{0 + 9i, 5 + 8i, 2 + 3i, 1 + 4i, 6 + 7i}, 2, [][]int{nil, {0}, {0, 3}, {0}, {0, 1}}},
	{"-[1 2]; 0[3]; 0[]; 1[4]; 3[]", []int{0, 1, 3, 4, 2}, []complex128{0 + 9i, 1 + 6i, 7 + 8i, 2 + 5i, 3 + 4i}, 3, [][]int{nil, {0}, {0}, {0, 1}, {0, 1, 3}}},
	// In no Kids, with Kids of its own.
	{"-[2]; 0[2]; 0[]", []int{0, 2}, []complex128{0 + 3i, no, 1 + 2i}, 1, [][]int{nil, nil, {0}}},
	{"-[]; 0[2]; 1[]", []int{0}, []complex128{0 + 1i, no, no}, 0, [][]int{nil, nil, nil}},
	// What is no node.
	{"-[2 - 1 -- 99 9223372036854775807 -9223372036854775808]; 0[2]", []int{0, 1}, []complex128{0 + 3i, 1 + 2i}, 1, [][]int{nil, {0}}},
	{"-[-]", []int{0}, []complex128{0 + 1i}, 0, [][]int{nil}},
	// Named twice, by one and by two.
	{"-[1 1]; 0[]", []int{0, 1}, []complex128{0 + 3i, 1 + 2i}, 1, [][]int{nil, {0}}},
	{"-[1 2 1]; 0[]; 0[]", []int{0, 1, 2}, []complex128{0 + 5i, 1 + 2i, 3 + 4i}, 1, [][]int{nil, {0}, {0}}},
	{"-[1 2]; 0[3]; 0[3]; 2[]", []int{0, 1, 3, 2}, []complex128{0 + 7i, 1 + 4i, 5 + 6i, 2 + 3i}, 2, [][]int{nil, {0}, {0}, {0, 1}}},
	{"-[1 2]; 0[2]; 0[]", []int{0, 1, 2}, []complex128{0 + 5i, 1 + 4i, 2 + 3i}, 2, [][]int{nil, {0}, {0, 1}}},
	{"-[2 1]; 0[2]; 0[]", []int{0, 2, 1}, []complex128{0 + 5i, 3 + 4i, 1 + 2i}, 1, [][]int{nil, {0}, {0}}},
	// Back to one that is being gone through, to 0, and to itself.
	{"-[1]; 0[2]; 1[1 3]; 2[]", []int{0, 1, 2, 3}, []complex128{0 + 7i, 1 + 6i, 2 + 5i, 3 + 4i}, 3, [][]int{nil, {0}, {0, 1}, {0, 1, 2}}},
	{"-[1]; 0[0 2]; 1[0]", []int{0, 1, 2}, []complex128{0 + 5i, 1 + 4i, 2 + 3i}, 2, [][]int{nil, {0}, {0, 1}}},
	{"0[0]", []int{0}, []complex128{0 + 1i}, 0, [][]int{nil}},
	{"0[0 1]; 1[1]", []int{0, 1}, []complex128{0 + 3i, 1 + 2i}, 1, [][]int{nil, {0}}},
	// Ups that say otherwise.
	{"7[1]; -[2]; 0[]", []int{0, 1, 2}, []complex128{0 + 5i, 1 + 4i, 2 + 3i}, 2, [][]int{nil, {0}, {0, 1}}},
	{"1[]; 0[]", []int{0}, []complex128{0 + 1i, no}, 0, [][]int{nil, nil}},
}

// P13.1: List and Deep. P13.2: Marks and Path.
func TestOrders(t *testing.T) {
	for _, c := range orders {
		x := sketch.Read(c.s)
		if got := List(x); !slices.Equal(got, c.list) {
			t.Errorf("List of %q is %v, not %v", c.s, got, c.list)
		}
		if got := Deep(x); got != c.deep {
			t.Errorf("Deep of %q is %d, not %d", c.s, got, c.deep)
		}
		if got := Marks(x); !slices.Equal(got, c.marks) {
			t.Errorf("Marks of %q are %v, not %v", c.s, got, c.marks)
		}
		for i, want := range c.paths {
			if got := Path(x, i); !slices.Equal(got, want) {
				t.Errorf("Path of %d in %q is %v, not %v", i, c.s, got, want)
			}
		}
		for _, i := range []int{-1, -2, len(c.paths), 99, math.MaxInt, math.MinInt} {
			if got := Path(x, i); len(got) != 0 {
				t.Errorf("Path of %d in %q is %v", i, c.s, got)
			}
		}
		look(t, x)
	}
}

// P13.2: Inside.
func TestInside(t *testing.T) {
	nan, inf, below := math.NaN(), math.Inf(1), math.Copysign(0, -1)
	for _, c := range []struct {
		a, b complex128
		want bool
	}{
		{1 + 2i, 0 + 3i, true}, {0 + 3i, 1 + 2i, false}, {2 + 3i, 0 + 9i, true}, {0 + 9i, 2 + 3i, false},
		{0 + 3i, 0 + 3i, false}, {1 + 2i, 1 + 2i, false}, {1 + 2i, 3 + 4i, false}, {3 + 4i, 1 + 2i, false}, {1 + 4i, 5 + 8i, false}, {5 + 8i, 1 + 4i, false},
		{no, no, false}, {1 + 2i, no, false}, {no, 0 + 3i, false}, {0 - 2i, no, false}, {no, -2 + 3i, false}, {0 - 3i, -1 - 1i, false}, {1 - 3i, 0 - 1i, true}, {0.5 - 3i, -0.5 - 1i, false},
		// Only one of both is less.
		{2 + 5i, 1 + 5i, false}, {2 + 6i, 1 + 5i, false}, {1 + 4i, 1 + 5i, false}, {0 + 4i, 1 + 5i, false}, {2 + 4i, 1 + 5i, true},
		{complex(0.5, 1), complex(0.25, 1.5), true}, {complex(1, 2), complex(below, 3), true}, {complex(below, 2), 0 + 3i, false}, {0 + 2i, complex(below, 3), false},
		{complex(nan, 2), 0 + 3i, false}, {1 + 2i, complex(nan, 3), false}, {complex(1, nan), 0 + 3i, false}, {1 + 2i, complex(0, nan), false}, {complex(nan, nan), complex(nan, nan), false}, {complex(inf, 2), complex(0, inf), true}, {complex(inf, -inf), complex(inf, inf), false}, {complex(1, 2), complex(-inf, 3), false},
	} {
		if got := Inside(c.a, c.b); got != c.want {
			t.Errorf("%v is Inside %v: %v", c.a, c.b, got)
		}
	}
}

// kidsOf are all lists of no more than two numbers from -1 to n.
func kidsOf(n int) [][]int {
	lists := [][]int{nil}
	for i := -1; i <= n; i++ {
		lists = append(lists, []int{i})
		for j := -1; j <= n; j++ {
			lists = append(lists, []int{i, j})
		}
	}
	return lists
}

// P13.1 to P13.3: all trees of up to three nodes with up to two Kids each, and many of up to twelve, held against the model.
func TestModel(t *testing.T) {
	for _, one := range kidsOf(1) {
		look(t, api.Tree{Nodes: []api.Node{{Kids: one}}})
		for _, two := range kidsOf(1) {
			look(t, api.Tree{Nodes: []api.Node{{Kids: one}, {Kids: two}}})
		}
	}
	for _, one := range kidsOf(2) {
		for _, two := range kidsOf(2) {
			for _, three := range kidsOf(2) {
				look(t, api.Tree{Nodes: []api.Node{{Kids: one}, {Kids: two}, {Kids: three}}})
			}
		}
	}
	r := rand.New(rand.NewSource(13))
	for range 3000 {
		x := api.Tree{Nodes: make([]api.Node, 1+r.Intn(12))}
		n := len(x.Nodes)
		for i := range x.Nodes {
			x.Nodes[i].Up = r.Intn(n+2) - 1
			for range r.Intn(5) {
				x.Nodes[i].Kids = append(x.Nodes[i].Kids, r.Intn(n+2)-1)
			}
		}
		look(t, x)
	}
}

// Rules: no call changes the tree; what lies behind its lists plays no part; what is told is new memory.
func TestKeepsApart(t *testing.T) {
	for _, c := range orders {
		if !sketch.Stays(sketch.Read(c.s), func(x api.Tree) { look(t, x) }) {
			t.Errorf("%q is changed", c.s)
		}
	}
	nodes := sketch.Read("-[1 2]; 0[2]; 0[]").Nodes
	look(t, api.Tree{Nodes: nodes[:2]})
	if got := List(api.Tree{Nodes: nodes[:2]}); !slices.Equal(got, []int{0, 1}) {
		t.Errorf("what lies behind the nodes is gone through: %v", got)
	}
	x := sketch.Read("-[1]; 0[2]; 1[]")
	list, marks, path := List(x), Marks(x), Path(x, 2)
	list[0], marks[0], path[0] = 9, 9, 9
	_ = append(path, 9)
	look(t, x)
	if Path(x, 2)[0] != 0 || List(x)[0] != 0 || Marks(x)[0] != 0+5i || list[1] != 1 || path[1] != 1 {
		t.Error("what was told before is told again")
	}
}

// P0: great trees, flat, deep, and those of which each node names many, are gone through soon.
func TestGreat(t *testing.T) {
	const many = 1 << 20
	flat := api.Tree{Nodes: make([]api.Node, many+1)}
	deep := api.Tree{Nodes: make([]api.Node, many+1)}
	for i := range many {
		flat.Nodes[0].Kids = append(flat.Nodes[0].Kids, i+1)
		deep.Nodes[i].Kids = []int{i + 1, 0, i}
	}
	full := api.Tree{Nodes: make([]api.Node, 1<<11)}
	all := List(flat)[:1<<11]
	for i := range full.Nodes {
		full.Nodes[i].Kids = all
	}
	for _, c := range []struct {
		name      string
		x         api.Tree
		deep      int
		last      complex128
		path, one int
	}{
		{"flat", flat, 1, complex(2*many-1, 2*many), 1, many}, {"deep", deep, many, complex(many, many+1), many, many}, {"full", full, 1<<11 - 1, complex(1<<11-1, 1<<11), 1<<11 - 1, 1<<11 - 1},
	} {
		n := len(c.x.Nodes)
		if got := List(c.x); len(got) != n || got[n-1] != n-1 {
			t.Errorf("%s: %d were gone into", c.name, len(got))
		}
		if got := Marks(c.x); got[n-1] != c.last || got[0] != complex(0, float64(2*n-1)) {
			t.Errorf("%s: marks are %v and %v", c.name, got[0], got[n-1])
		}
		if got := Deep(c.x); got != c.deep {
			t.Errorf("%s: Deep is %d", c.name, got)
		}
		if got := Path(c.x, c.one); len(got) != c.path || got[0] != 0 || got[len(got)-1] != c.path-1 {
			t.Errorf("%s: Path has %d", c.name, len(got))
		}
	}
}
