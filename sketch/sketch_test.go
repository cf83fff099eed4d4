package sketch

import (
	"math"
	"testing"

	"hoarding/api"
)

// What is read is written again.
func TestRead(t *testing.T) {
	for _, s := range []string{"", "-[]", "-[1 2]; 0[]; 0[]", "--[- 12 --- -10]; 0[9223372036854775807 -9223372036854775808]; ---------[]"} {
		if got := Write(Read(s)); got != s {
			t.Errorf("%q is written as %q", s, got)
		}
	}
	x := Read("-[1 --]; 10[-11]")
	want := api.Tree{Nodes: []api.Node{{Up: -1, Kids: []int{1, -2}}, {Kind: api.Elem, Name: "e1", Up: 10, Kids: []int{-11}}}}
	if !Alike(x, want) || Number(math.MinInt) != "-9223372036854775808" {
		t.Errorf("read was %+v", x)
	}
}

// Each node is what is written.
func TestNodes(t *testing.T) {
	one, two := api.Attr{Name: "x", Value: "1"}, api.Attr{Name: "y"}
	want := api.Tree{Nodes: []api.Node{{Up: -1}, {Kind: api.Elem, Name: "b", Up: -1}, {Kind: api.Elem, Space: api.Svg, Name: "g", Up: -1}, {Kind: api.Elem, Space: api.Math, Name: "mi", Attrs: []api.Attr{one, two}, Up: -1}, {Kind: api.Chars, Name: "b", Up: -1}, {Kind: api.Remark, Name: "b", Up: -1}, {Kind: api.Type, Space: api.Math, Name: "b", Up: -1}, {Kind: api.Elem, Up: -1}}}
	if x := Nodes("b; svg:g;math:mi x=1  y= ; #b; !b; ?math:b; "); !Alike(x, want) {
		t.Errorf("read was %+v", x)
	}
	if x := Nodes(""); !Alike(x, api.Tree{Nodes: []api.Node{{Up: -1}, {Kind: api.Elem, Up: -1}}}) {
		t.Errorf("of nothing was read %+v", x)
	}
}

// Trees that part in one field alone are not alike, and what is changed does not stay.
func TestAlike(t *testing.T) {
	one := api.Tree{Nodes: []api.Node{{Up: -1, Kids: []int{1}}, {Kind: api.Elem, Attrs: []api.Attr{{Name: "a"}}}}}
	for i, change := range []func(t *api.Tree){
		func(t *api.Tree) { t.Nodes = t.Nodes[:1] }, func(t *api.Tree) { t.Nodes[1].Kind++ }, func(t *api.Tree) { t.Nodes[1].Space++ }, func(t *api.Tree) { t.Nodes[1].Name = "b" }, func(t *api.Tree) { t.Nodes[1].Data = "b" }, func(t *api.Tree) { t.Nodes[1].Up = 1 },
		func(t *api.Tree) { t.Nodes[1].Attrs[0].Name = "b" }, func(t *api.Tree) { t.Nodes[1].Attrs[0].Value = "b" }, func(t *api.Tree) { t.Nodes[1].Attrs = nil }, func(t *api.Tree) { t.Nodes[0].Kids[0] = 2 }, func(t *api.Tree) { t.Nodes[0].Kids = nil }, func(t *api.Tree) { t.Nodes[1].Kids = append(t.Nodes[1].Kids, 1) },
	} {
		other := Copy(one)
		if !Alike(one, other) || !Alike(other, one) {
			t.Fatalf("a copy is another tree: %+v", other)
		}
		change(&other)
		if Alike(one, other) || Alike(other, one) {
			t.Errorf("%d: %+v is alike", i, other)
		}
	}
	for i, change := range []func(t api.Tree){
		func(t api.Tree) { t.Nodes[1].Data = "b" }, func(t api.Tree) { t.Nodes[0].Kids[0] = 2 }, func(t api.Tree) { _ = append(t.Nodes[0].Kids, 7) }, func(t api.Tree) { _ = append(t.Nodes, api.Node{}) }, func(t api.Tree) { t.Nodes[1].Attrs[0].Name = "b" },
	} {
		if Stays(one, change) {
			t.Errorf("%d: a tree that is changed stays", i)
		}
	}
	if !Stays(one, func(t api.Tree) {}) || !Stays(api.Tree{}, func(t api.Tree) {}) {
		t.Error("a tree that is not changed does not stay")
	}
}
