package active

import (
	"math"
	"math/rand"
	"slices"
	"strings"
	"testing"

	"hoarding/api"
	"hoarding/attr"
	"hoarding/sketch"
)

// The calls by the chapter's words.

// modelEnd is how many stand up to and with the last mark.
func modelEnd(l []int) int {
	n := 0
	for at, i := range l {
		if i == -1 {
			n = at + 1
		}
	}
	return n
}

func modelAlike(t api.Tree, one, i int) bool {
	if one < 0 || one >= len(t.Nodes) || i < 0 || i >= len(t.Nodes) {
		return false
	}
	a, b := t.Nodes[one], t.Nodes[i]
	return a.Space == b.Space && a.Name == b.Name && attr.Alike(a.Attrs, b.Attrs)
}

func modelPush(t api.Tree, l []int, i int) []int {
	var alike []int
	for at := modelEnd(l); at < len(l); at++ {
		if modelAlike(t, l[at], i) {
			alike = append(alike, at)
		}
	}
	if len(alike) >= 3 {
		l = slices.Concat(l[:alike[0]], l[alike[0]+1:])
	}
	return slices.Concat(l, []int{i})
}

func modelClear(l []int) []int {
	if n := modelEnd(l); n > 0 {
		return l[:n-1]
	}
	return nil
}

func modelFind(t api.Tree, l []int, name string) int {
	found := -1
	for _, i := range l[modelEnd(l):] {
		if i >= 0 && i < len(t.Nodes) && t.Nodes[i].Kind == api.Elem && t.Nodes[i].Space == api.Html && t.Nodes[i].Name == name {
			found = i
		}
	}
	return found
}

func modelDrop(l []int, i int) []int {
	var out []int
	for _, one := range l {
		if i < 0 || one != i {
			out = append(out, one)
		}
	}
	return out
}

func modelSwap(l []int, i, by int) []int {
	var out []int
	for _, one := range l {
		if one == i {
			one = by
		}
		out = append(out, one)
	}
	return out
}

func modelAt(l []int, i int) int {
	for at, one := range l {
		if one == i {
			return at
		}
	}
	return -1
}

func modelInto(l []int, at, i int) []int {
	if at < 0 {
		at = 0
	}
	if at > len(l) {
		at = len(l)
	}
	return slices.Concat(l[:at], []int{i}, l[at:])
}

// look holds all that is told of x and l, with each of these numbers, against the models.
func look(t *testing.T, x api.Tree, l []int, numbers []int) {
	t.Helper()
	list := func(call string, i int, got, want []int) {
		t.Helper()
		if !slices.Equal(got, want) {
			t.Fatalf("%s of %d and %v tells %v, not %v", call, i, l, got, want)
		}
	}
	list("Clear", 0, Clear(l), modelClear(l))
	for _, name := range []string{"b", "i", "", "B", "svg:b", "b i"} {
		if got, want := Find(x, l, name), modelFind(x, l, name); got != want {
			t.Fatalf("Find(%q) of %v in %+v is %d, not %d", name, l, x.Nodes, got, want)
		}
	}
	for at, i := range numbers {
		list("Push", i, Push(x, l, i), modelPush(x, l, i))
		list("Drop", i, Drop(l, i), modelDrop(l, i))
		list("Swap", i, Swap(l, i, numbers[len(numbers)-1-at]), modelSwap(l, i, numbers[len(numbers)-1-at]))
		list("Into", i, Into(l, at-2, i), modelInto(l, at-2, i))
		if got, want := At(l, i), modelAt(l, i); got != want {
			t.Fatalf("%d is At %d of %v, not at %d", i, got, l, want)
		}
	}
}

// nodes are, from 1 on: five that are alike, ones that part from these in one thing alone, or only seem to, and ones with attributes.
const nodes = "b; b; b; b; b; i; svg:b; #b; b x=1; b x=1 y=2; b y=2 x=1; b x=2 y=1; b y=2 x=1; b x=1 y=2; svg:b; ; B; b x; math:b"

// P16.1: Push, where as many are alike as may be, and one less; with marks between; of nodes that part in one thing.
func TestPush(t *testing.T) {
	x := sketch.Nodes(nodes)
	for _, c := range []struct {
		l    []int
		i    int
		want []int
	}{
		// The first to the fifth, and one that has come too often.
		{nil, 1, []int{1}}, {[]int{1}, 2, []int{1, 2}}, {[]int{1, 2}, 3, []int{1, 2, 3}}, {[]int{1, 2, 3}, 4, []int{2, 3, 4}}, {[]int{2, 3, 4}, 5, []int{3, 4, 5}}, {[]int{1, 2, 3, 4}, 5, []int{2, 3, 4, 5}}, {[]int{1, 2, 3, 4, 5}, 1, []int{2, 3, 4, 5, 1}},
		// Others between, ahead and behind.
		{[]int{6, 1, 6, 2, 6, 3, 6}, 4, []int{6, 6, 2, 6, 3, 6, 4}}, {[]int{6, 6, 6, 1, 2}, 3, []int{6, 6, 6, 1, 2, 3}}, {[]int{1, 2, 3}, 6, []int{1, 2, 3, 6}}, {[]int{3, 1, 2}, 4, []int{1, 2, 4}},
		// Marks.
		{[]int{-1}, 1, []int{-1, 1}}, {[]int{1, 2, 3, -1}, 4, []int{1, 2, 3, -1, 4}}, {[]int{1, 2, -1, 3}, 4, []int{1, 2, -1, 3, 4}}, {[]int{1, -1, 2, 3, 4}, 5, []int{1, -1, 3, 4, 5}}, {[]int{-1, 1, 2, 3}, 4, []int{-1, 2, 3, 4}}, {[]int{1, 2, 3, -1, -1}, 4, []int{1, 2, 3, -1, -1, 4}}, {[]int{1, 2, 3, -1, 1, 2, -1, 3, 4}, 5, []int{1, 2, 3, -1, 1, 2, -1, 3, 4, 5}}, {[]int{1, 2, 3, -1, 1, -1, 2, 3, 4}, 5, []int{1, 2, 3, -1, 1, -1, 3, 4, 5}},
		// One that is there already.
		{[]int{1}, 1, []int{1, 1}}, {[]int{1, 2}, 1, []int{1, 2, 1}}, {[]int{1, 2, 3}, 1, []int{2, 3, 1}}, {[]int{1, 2, 3}, 3, []int{2, 3, 3}}, {[]int{1, 1, 1}, 1, []int{1, 1, 1}}, {[]int{2, 1, 1, 1}, 1, []int{1, 1, 1, 1}}, {[]int{1, 6, 1, 1}, 2, []int{6, 1, 1, 2}},
		// Alike in name alone, in all but the namespace, in all but the name; other Kinds, and what is none, play no part.
		{[]int{7, 15, 7}, 1, []int{7, 15, 7, 1}}, {[]int{1, 2, 3}, 7, []int{1, 2, 3, 7}}, {[]int{1, 2, 3}, 19, []int{1, 2, 3, 19}}, {[]int{7, 7, 15}, 7, []int{7, 15, 7}}, {[]int{1, 2, 3}, 17, []int{1, 2, 3, 17}}, {[]int{6, 6, 6}, 1, []int{6, 6, 6, 1}}, {[]int{1, 2, 3}, 8, []int{2, 3, 8}}, {[]int{8, 2, 3}, 1, []int{2, 3, 1}}, {[]int{1, 2, 3}, 16, []int{1, 2, 3, 16}}, {[]int{16, 16, 0}, 16, []int{16, 0, 16}},
		// Attributes: other ones, none, in another order.
		{[]int{9, 9, 9}, 1, []int{9, 9, 9, 1}}, {[]int{1, 2, 3}, 9, []int{1, 2, 3, 9}}, {[]int{10, 10, 10}, 9, []int{10, 10, 10, 9}}, {[]int{9, 9, 9}, 10, []int{9, 9, 9, 10}}, {[]int{18, 18, 18}, 9, []int{18, 18, 18, 9}}, {[]int{10, 11, 13}, 14, []int{11, 13, 14}}, {[]int{10, 11, 12}, 13, []int{10, 11, 12, 13}}, {[]int{12, 10, 11, 13}, 14, []int{12, 11, 13, 14}}, {[]int{11, 11, 11}, 10, []int{11, 11, 10}},
		// What is no node.
		{nil, -1, []int{-1}}, {nil, -2, []int{-2}}, {nil, 99, []int{99}}, {[]int{1, 2, 3}, -1, []int{1, 2, 3, -1}}, {[]int{-1, -1, -1}, -1, []int{-1, -1, -1, -1}}, {[]int{-2, -2, -2}, -2, []int{-2, -2, -2, -2}}, {[]int{99, 99, 99}, 99, []int{99, 99, 99, 99}}, {[]int{20, 20, 20}, 20, []int{20, 20, 20, 20}}, {[]int{99, 98, -2}, 16, []int{99, 98, -2, 16}}, {[]int{1, 99, 2, -2, 3}, 4, []int{99, 2, -2, 3, 4}}, {[]int{1, -2, 2, 3}, 4, []int{-2, 2, 3, 4}}, {[]int{math.MaxInt, math.MinInt}, 1, []int{math.MaxInt, math.MinInt, 1}}, {[]int{1, 2, 3}, math.MinInt, []int{1, 2, 3, math.MinInt}}, {[]int{0, 0, 0}, 0, []int{0, 0, 0}},
	} {
		if got := Push(x, c.l, c.i); !slices.Equal(got, c.want) {
			t.Errorf("Push of %d behind %v tells %v, not %v", c.i, c.l, got, c.want)
		}
	}
	if got := Push(api.Tree{}, []int{0, 0, 0}, 0); !slices.Equal(got, []int{0, 0, 0, 0}) {
		t.Errorf("of no nodes at all Push tells %v", got)
	}
}

// P16.1: Clear without a mark, with one, with two.
func TestClear(t *testing.T) {
	for _, c := range []struct{ l, want []int }{
		{nil, nil}, {[]int{}, nil}, {[]int{1}, nil}, {[]int{1, 2, 3}, nil}, {[]int{-2, 99}, nil},
		{[]int{-1}, nil}, {[]int{1, -1}, []int{1}}, {[]int{-1, 1}, nil}, {[]int{1, 2, -1, 3, 4}, []int{1, 2}}, {[]int{1, 2, -1}, []int{1, 2}}, {[]int{-1, 1, 2}, nil}, {[]int{1, -2, -1, -2}, []int{1, -2}},
		{[]int{-1, -1}, []int{-1}}, {[]int{1, -1, 2, -1, 3}, []int{1, -1, 2}}, {[]int{1, -1, -1, 3}, []int{1, -1}}, {[]int{-1, 2, 3, -1}, []int{-1, 2, 3}}, {[]int{-1, -1, 2}, []int{-1}}, {[]int{-1, 1, -1, 2, -1}, []int{-1, 1, -1, 2}}, {[]int{math.MinInt, -1, math.MaxInt}, []int{math.MinInt}},
	} {
		if got := Clear(c.l); !slices.Equal(got, c.want) {
			t.Errorf("Clear of %v leaves %v, not %v", c.l, got, c.want)
		}
	}
}

// P16.1: Find behind the last mark and ahead of it, of other namespaces, of other Kinds, and of what is no node.
func TestFind(t *testing.T) {
	x := sketch.Nodes(nodes)
	for _, c := range []struct {
		l    []int
		name string
		want int
	}{
		{nil, "b", -1}, {[]int{1}, "b", 1}, {[]int{1}, "i", -1}, {[]int{6, 2, 6}, "b", 2}, {[]int{3, 1, 2}, "b", 2}, {[]int{1, 2, 6}, "b", 2}, {[]int{1, 1}, "b", 1}, {[]int{1}, "B", -1}, {[]int{17, 1}, "B", 17}, {[]int{1, 10, 6}, "b", 10}, {[]int{6, 1}, "b i", -1}, {[]int{1}, "", -1}, {[]int{1}, " b", -1},
		{[]int{-1}, "b", -1}, {[]int{1, -1}, "b", -1}, {[]int{-1, 1}, "b", 1}, {[]int{1, -1, 2}, "b", 2}, {[]int{1, -1, 6}, "b", -1}, {[]int{1, -1, 2, -1}, "b", -1}, {[]int{1, -1, 2, -1, 6}, "b", -1}, {[]int{6, -1, 2, -1, 6, 3}, "i", 6}, {[]int{1, -1, -1, 6}, "b", -1},
		{[]int{7}, "b", -1}, {[]int{1, 7, 15, 19}, "b", 1}, {[]int{8}, "b", -1}, {[]int{1, 8}, "b", 1}, {[]int{0}, "", -1}, {[]int{16, 0}, "", 16}, {[]int{1, -2, 99}, "b", 1}, {[]int{-2, 99, math.MaxInt, math.MinInt}, "", -1}, {[]int{20}, "b", -1},
	} {
		if got := Find(x, c.l, c.name); got != c.want {
			t.Errorf("Find(%q) of %v is %d, not %d", c.name, c.l, got, c.want)
		}
	}
	if got := Find(api.Tree{}, []int{0, 1}, ""); got != -1 {
		t.Errorf("of no nodes at all it is %d", got)
	}
}

// P16.2: Drop, Swap (by 9) and At of a number that is there once, twice, not at all, and below 0.
func TestDropSwapAt(t *testing.T) {
	const no = math.MinInt
	for _, c := range []struct {
		l          []int
		i          int
		drop, swap []int
		at         int
	}{
		{nil, 1, nil, nil, -1}, {nil, -1, nil, nil, -1}, {[]int{1}, 1, nil, []int{9}, 0}, {[]int{1}, 2, []int{1}, []int{1}, -1}, {[]int{1, 2, 3}, 1, []int{2, 3}, []int{9, 2, 3}, 0}, {[]int{1, 2, 3}, 2, []int{1, 3}, []int{1, 9, 3}, 1}, {[]int{1, 2, 3}, 3, []int{1, 2}, []int{1, 2, 9}, 2}, {[]int{1, 2, 3}, 4, []int{1, 2, 3}, []int{1, 2, 3}, -1}, {[]int{1, 2, 3}, 0, []int{1, 2, 3}, []int{1, 2, 3}, -1}, {[]int{1, 0, 3}, 0, []int{1, 3}, []int{1, 9, 3}, 1},
		{[]int{1, 2, 1}, 1, []int{2}, []int{9, 2, 9}, 0}, {[]int{2, 1, 1, 2}, 1, []int{2, 2}, []int{2, 9, 9, 2}, 1}, {[]int{1, 1, 1}, 1, nil, []int{9, 9, 9}, 0}, {[]int{2, 1, -1, 1}, 1, []int{2, -1}, []int{2, 9, -1, 9}, 1}, {[]int{2, -1, 1}, 1, []int{2, -1}, []int{2, -1, 9}, 2},
		{[]int{1, -1, 2, -1}, -1, []int{1, -1, 2, -1}, []int{1, 9, 2, 9}, 1}, {[]int{-1}, -1, []int{-1}, []int{9}, 0}, {[]int{1, 2}, -1, []int{1, 2}, []int{1, 2}, -1}, {[]int{-1, -2}, -2, []int{-1, -2}, []int{-1, 9}, 1}, {[]int{1, no}, no, []int{1, no}, []int{1, 9}, 1}, {[]int{1, math.MaxInt}, math.MaxInt, []int{1}, []int{1, 9}, 1}, {[]int{9, 1}, 9, []int{1}, []int{9, 1}, 0},
	} {
		if got := Drop(c.l, c.i); !slices.Equal(got, c.drop) {
			t.Errorf("Drop of %d from %v leaves %v", c.i, c.l, got)
		}
		if got := Swap(c.l, c.i, 9); !slices.Equal(got, c.swap) {
			t.Errorf("Swap of %d in %v tells %v", c.i, c.l, got)
		}
		if got := At(c.l, c.i); got != c.at {
			t.Errorf("%d is At %d of %v", c.i, got, c.l)
		}
	}
	for _, by := range []int{-1, 0, 1, 2, 3, -7, math.MaxInt, math.MinInt} {
		if got := Swap([]int{1, 2, 3, 1, -1}, 1, by); !slices.Equal(got, []int{by, 2, 3, by, -1}) {
			t.Errorf("Swap by %d tells %v", by, got)
		}
	}
}

// P16.2: Into at the beginning, in the middle, at the end, below 0 and beyond the end; of one that is there, of a mark, of what is no node.
func TestInto(t *testing.T) {
	for _, c := range []struct {
		l     []int
		at, i int
		want  []int
	}{
		{nil, 0, 1, []int{1}}, {nil, 5, 1, []int{1}}, {nil, -5, 1, []int{1}}, {[]int{1}, 0, 2, []int{2, 1}}, {[]int{1}, 1, 2, []int{1, 2}}, {[]int{1}, 2, 2, []int{1, 2}}, {[]int{1}, -1, 2, []int{2, 1}},
		{[]int{1, 2, 3}, 0, 4, []int{4, 1, 2, 3}}, {[]int{1, 2, 3}, 1, 4, []int{1, 4, 2, 3}}, {[]int{1, 2, 3}, 2, 4, []int{1, 2, 4, 3}}, {[]int{1, 2, 3}, 3, 4, []int{1, 2, 3, 4}}, {[]int{1, 2, 3}, 4, 4, []int{1, 2, 3, 4}}, {[]int{1, 2, 3}, math.MaxInt, 4, []int{1, 2, 3, 4}}, {[]int{1, 2, 3}, -1, 4, []int{4, 1, 2, 3}}, {[]int{1, 2, 3}, math.MinInt, 4, []int{4, 1, 2, 3}},
		{[]int{1, 2}, 1, 1, []int{1, 1, 2}}, {[]int{1, -1, 2}, 1, -1, []int{1, -1, -1, 2}}, {[]int{1, -1, 2}, 2, 3, []int{1, -1, 3, 2}}, {[]int{1}, 0, -1, []int{-1, 1}}, {[]int{1}, 0, -9, []int{-9, 1}}, {[]int{1}, 1, math.MaxInt, []int{1, math.MaxInt}}, {[]int{1, 2}, 1, 0, []int{1, 0, 2}},
	} {
		if got := Into(c.l, c.at, c.i); !slices.Equal(got, c.want) {
			t.Errorf("Into %v at %d comes %d: %v, not %v", c.l, c.at, c.i, got, c.want)
		}
	}
}

// P16.1, P16.2: all lists of up to four numbers, and many that are longer, held against the models.
func TestModel(t *testing.T) {
	x := sketch.Nodes(nodes)
	numbers := []int{1, 2, 6, 7, 10, 11, -1, -2, 99}
	level := [][]int{nil}
	for range 5 {
		var next [][]int
		for _, l := range level {
			look(t, x, l, numbers)
			for _, i := range numbers {
				next = append(next, append(slices.Clone(l), i))
			}
		}
		level = next
	}
	r := rand.New(rand.NewSource(16))
	wide := []int{-1, -1, 1, 2, 3, 4, 5, 6, 7, 8, 9, 10, 11, 13, 14, 15, 16, 0, -2, 20, 99}
	for range 5000 {
		l := make([]int, r.Intn(16))
		some := 1 + r.Intn(len(wide))
		for at := range l {
			l[at] = wide[r.Intn(some)]
		}
		look(t, x, l, wide)
	}
}

// P16.3: what Push and Clear make of an empty list, in any order, has no more than three alike at its end, and ahead of each mark.
func TestNoMoreThanThree(t *testing.T) {
	x := sketch.Nodes(nodes)
	r := rand.New(rand.NewSource(163))
	most := 0
	for range 500 {
		var l []int
		for range 40 {
			switch r.Intn(12) {
			case 0:
				l = Clear(l)
			case 1:
				l = Push(x, l, -1)
			default:
				l = Push(x, l, r.Intn(len(x.Nodes)+2))
			}
			if most = max(most, crowded(x, l)); most > 3 {
				t.Fatalf("of %v %d are alike", l, most)
			}
		}
	}
	if most != 3 {
		t.Errorf("no more than %d were alike", most)
	}
}

// crowded is how many of l at most are alike, with no mark between them.
func crowded(x api.Tree, l []int) int {
	most := 0
	for at, i := range l {
		count := 0
		for _, one := range l[at:] {
			if one == -1 {
				break
			}
			if modelAlike(x, one, i) {
				count++
			}
		}
		most = max(most, count)
	}
	return most
}

// Rules: no call changes what it is told; what lies behind the list plays no part; what is told is new memory.
func TestKeepsApart(t *testing.T) {
	x := sketch.Nodes(nodes)
	whole := []int{-1, 1, 2, 6, 3, -1, 1, 10, 2, 3, -1, 1, -1}
	was := slices.Clone(whole)
	calls := map[string]func(x api.Tree, l []int) []int{
		"Push":      func(x api.Tree, l []int) []int { return Push(x, l, 4) },
		"Push mark": func(x api.Tree, l []int) []int { return Push(x, l, -1) },
		"Clear":     func(x api.Tree, l []int) []int { return Clear(l) },
		"Drop":      func(x api.Tree, l []int) []int { return Drop(l, 1) },
		"Drop mark": func(x api.Tree, l []int) []int { return Drop(l, -1) },
		"Drop none": func(x api.Tree, l []int) []int { return Drop(l, 99) },
		"Swap":      func(x api.Tree, l []int) []int { return Swap(l, 2, 7) },
		"Swap none": func(x api.Tree, l []int) []int { return Swap(l, 99, 7) },
		"Into":      func(x api.Tree, l []int) []int { return Into(l, 1, 5) },
		"Into end":  func(x api.Tree, l []int) []int { return Into(l, 50, 5) },
	}
	for n := range whole {
		part := whole[:n]
		for name, call := range calls {
			if !sketch.Stays(x, func(x api.Tree) {
				out := call(x, part)
				first := slices.Clone(out)
				_ = append(out, 1000, 1001, 1002)
				for at := range out {
					out[at] = 1000
				}
				if again := call(x, part); !slices.Equal(again, first) {
					t.Errorf("%s of %v tells %v, then %v", name, part, first, again)
				}
			}) {
				t.Errorf("%s changes the tree", name)
			}
			if !slices.Equal(whole, was) {
				t.Fatalf("%s of %d: %v became %v", name, n, was, whole)
			}
		}
		if !sketch.Stays(x, func(x api.Tree) { look(t, x, part, []int{-1, 1, 99, 4}) }) || !slices.Equal(whole, was) {
			t.Errorf("of %d the list or the tree is changed", n)
		}
	}
	one, two := Push(x, []int{1}, 2), Push(x, []int{1}, 3)
	if !slices.Equal(one, []int{1, 2}) || !slices.Equal(two, []int{1, 3}) {
		t.Errorf("answers share: %v, %v", one, two)
	}
	// Nodes behind the tree's length are none.
	part := api.Tree{Nodes: sketch.Nodes("b; b; b; b").Nodes[:2]}
	if Find(part, []int{1, 2, 3}, "b") != 1 || !slices.Equal(Push(part, []int{1, 2, 3}, 1), []int{1, 2, 3, 1}) || !slices.Equal(Push(part, []int{1, 1, 1}, 2), []int{1, 1, 1, 2}) {
		t.Error("what lies behind the nodes is seen")
	}
}

// P0: great lists, great names and many attributes come to an end, and soon.
func TestGreat(t *testing.T) {
	const many = 1 << 20
	x := sketch.Nodes("b; b; i")
	l := slices.Repeat([]int{1, 3}, many/2)
	if got := Push(x, l, 2); len(got) != many || got[0] != 3 || got[many-1] != 2 {
		t.Error("a great list is pushed otherwise")
	}
	if len(Clear(l)) != 0 || Find(x, l, "q") != -1 || Find(x, l, "b") != 1 || len(Drop(l, 3)) != many/2 || At(Swap(l, 3, 2), 3) != -1 || len(Into(l, many/2, 2)) != many+1 {
		t.Error("a great list is told otherwise")
	}
	if marks := slices.Repeat([]int{-1}, many); len(Clear(marks)) != many-1 || Find(x, marks, "b") != -1 || len(Push(x, marks, 1)) != many+1 {
		t.Error("a great list of marks is told otherwise")
	}
	name := strings.Repeat("b", many)
	for i := range 3 {
		x.Nodes[i+1].Name, x.Nodes[i+1].Attrs = name, slices.Repeat([]api.Attr{{Name: "x"}}, many/4)
	}
	x.Nodes[3].Attrs[7].Value = "y"
	if !slices.Equal(Push(x, []int{1, 3, 2, 1}, 2), []int{3, 2, 1, 2}) || Find(x, []int{1, 2}, name) != 2 || Find(x, []int{1, 2}, name[1:]) != -1 {
		t.Error("nodes of a great name are told otherwise")
	}
}
