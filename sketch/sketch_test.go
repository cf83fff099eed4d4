package sketch

import (
	"math"
	"testing"

	"hoarding/api"
)

// What is read is written again.
func TestRead(t *testing.T) {
	for _, s := range []string{"", "-[]", "-[1 2]; 0[]; 0[]", "--[- 12 --- -10]; 0[9223372036854775807 -9223372036854775808]; ---------[]"} {
		if got := Write(Read(s)); got != s {
			t.Errorf("%q is written as %q", s, got)
		}
	}
	x := Read("-[1 --]; 10[-11]")
	want := api.Tree{Nodes: []api.Node{{Up: -1, Kids: []int{1, -2}}, {Kind: api.Elem, Name: "e1", Up: 10, Kids: []int{-11}}}}
	if !Alike(x, want) || Number(math.MinInt) != "-9223372036854775808" {
		t.Errorf("read was %+v", x)
	}
}

// Trees that part in one field alone are not alike, and what is changed does not stay.
func TestAlike(t *testing.T) {
	one := api.Tree{Nodes: []api.Node{{Up: -1, Kids: []int{1}}, {Kind: api.Elem, Attrs: []api.Attr{{Name: "a"}}}}}
	for i, change := range []func(t *api.Tree){
		func(t *api.Tree) { t.Nodes = t.Nodes[:1] }, func(t *api.Tree) { t.Nodes[1].Kind++ }, func(t *api.Tree) { t.Nodes[1].Space++ }, func(t *api.Tree) { t.Nodes[1].Name = "b" }, func(t *api.Tree) { t.Nodes[1].Data = "b" }, func(t *api.Tree) { t.Nodes[1].Up = 1 },
		func(t *api.Tree) { t.Nodes[1].Attrs[0].Name = "b" }, func(t *api.Tree) { t.Nodes[1].Attrs[0].Value = "b" }, func(t *api.Tree) { t.Nodes[1].Attrs = nil }, func(t *api.Tree) { t.Nodes[0].Kids[0] = 2 }, func(t *api.Tree) { t.Nodes[0].Kids = nil }, func(t *api.Tree) { t.Nodes[1].Kids = append(t.Nodes[1].Kids, 1) },
	} {
		other := Copy(one)
		if !Alike(one, other) || !Alike(other, one) {
			t.Fatalf("a copy is another tree: %+v", other)
		}
		change(&other)
		if Alike(one, other) || Alike(other, one) {
			t.Errorf("%d: %+v is alike", i, other)
		}
	}
	for i, change := range []func(t api.Tree){
		func(t api.Tree) { t.Nodes[1].Data = "b" }, func(t api.Tree) { t.Nodes[0].Kids[0] = 2 }, func(t api.Tree) { _ = append(t.Nodes[0].Kids, 7) }, func(t api.Tree) { _ = append(t.Nodes, api.Node{}) }, func(t api.Tree) { t.Nodes[1].Attrs[0].Name = "b" },
	} {
		if Stays(one, change) {
			t.Errorf("%d: a tree that is changed stays", i)
		}
	}
	if !Stays(one, func(t api.Tree) {}) || !Stays(api.Tree{}, func(t api.Tree) {}) {
		t.Error("a tree that is not changed does not stay")
	}
}
