// Package sketch writes trees as short texts, odd trees too; the tests of the layers alone need it.
//
// Read and Write: of each node there stand the Up, and in brackets the Kids: "-[1 2]; 0[]; 0[]" is a root with two kids. -1 is -, -2 is --, and so on, down to -9. Nodes: of each node there stands what it is.
package sketch

import (
	"slices"
	"strconv"
	"strings"

	"hoarding/api"
)

// Read is the tree that is written so; each node but 0 is an element with a name of its own. An empty text is a tree without nodes.
func Read(s string) api.Tree {
	var t api.Tree
	if s == "" {
		return t
	}
	for i, one := range strings.Split(s, "; ") {
		up, kids, _ := strings.Cut(strings.TrimSuffix(one, "]"), "[")
		n := api.Node{Up: value(up)}
		if i > 0 {
			n.Kind, n.Name = api.Elem, "e"+strconv.Itoa(i)
		}
		for _, kid := range strings.Fields(kids) {
			n.Kids = append(n.Kids, value(kid))
		}
		t.Nodes = append(t.Nodes, n)
	}
	return t
}

// Write is t as Read reads it; only Up and Kids count.
func Write(t api.Tree) string {
	var nodes []string
	for _, n := range t.Nodes {
		var kids []string
		for _, kid := range n.Kids {
			kids = append(kids, Number(kid))
		}
		nodes = append(nodes, Number(n.Up)+"["+strings.Join(kids, " ")+"]")
	}
	return strings.Join(nodes, "; ")
}

// Nodes is a tree of the root and these nodes, none in another one: "b; svg:g; math:mi; a x=1 y=2; #b; !b; ?b" is an element of Html, one of Svg, one of Math, one with two attributes, and text, a remark and a doctype, all three of the name b.
func Nodes(s string) api.Tree {
	t := api.Tree{Nodes: []api.Node{{Kind: api.Root, Up: -1}}}
	for _, one := range strings.Split(s, ";") {
		t.Nodes = append(t.Nodes, node(strings.TrimSpace(one)))
	}
	return t
}

// node is the one that is written so.
func node(s string) api.Node {
	name, attrs, _ := strings.Cut(s, " ")
	n := api.Node{Kind: api.Elem, Name: name, Up: -1}
	for at, sign := range []string{"#", "!", "?"} {
		if rest, is := strings.CutPrefix(n.Name, sign); is {
			n.Kind, n.Name = api.Chars+at, rest
		}
	}
	for at, sign := range []string{"svg:", "math:"} {
		if rest, is := strings.CutPrefix(n.Name, sign); is {
			n.Space, n.Name = api.Svg+at, rest
		}
	}
	for _, a := range strings.Fields(attrs) {
		name, value, _ := strings.Cut(a, "=")
		n.Attrs = append(n.Attrs, api.Attr{Name: name, Value: value})
	}
	return n
}

// value is the number that is written so.
func value(s string) int {
	if strings.Trim(s, "-") == "" {
		return -len(s)
	}
	n, _ := strconv.Atoi(s)
	return n
}

// Number is n as it is written.
func Number(n int) string {
	if -9 <= n && n < 0 {
		return strings.Repeat("-", -n)
	}
	return strconv.Itoa(n)
}

// Copy is t in memory of its own.
func Copy(t api.Tree) api.Tree {
	nodes := slices.Clone(t.Nodes)
	for i := range nodes {
		nodes[i].Attrs = slices.Clone(nodes[i].Attrs)
		nodes[i].Kids = slices.Clone(nodes[i].Kids)
	}
	return api.Tree{Nodes: nodes}
}

// Crowd is t with all Kids in one memory, one list behind the other, and with two numbers behind the last one, and this memory.
func Crowd(t api.Tree) (api.Tree, []int) {
	var memory []int
	for _, n := range t.Nodes {
		memory = append(memory, n.Kids...)
	}
	memory = append(memory, 0, 1)
	t = Copy(t)
	from := 0
	for i, n := range t.Nodes {
		t.Nodes[i].Kids = memory[from : from+len(n.Kids)]
		from += len(n.Kids)
	}
	return t, memory
}

// Stays tells whether all of t, and what lies behind its lists, stays as it is while do has it.
func Stays(t api.Tree, do func(t api.Tree)) bool {
	crowd, memory := Crowd(t)
	was := slices.Clone(memory)
	nodes := append(crowd.Nodes, api.Node{Name: "behind"})
	crowd.Nodes = nodes[:len(t.Nodes)]
	do(crowd)
	crowd.Nodes = nodes[:len(t.Nodes)]
	return slices.Equal(memory, was) && nodes[len(t.Nodes)].Name == "behind" && Alike(crowd, t)
}

// Alike tells whether a and b are the same, node by node, field by field.
func Alike(a, b api.Tree) bool {
	return slices.EqualFunc(a.Nodes, b.Nodes, func(a, b api.Node) bool {
		return a.Kind == b.Kind && a.Space == b.Space && a.Name == b.Name && a.Data == b.Data &&
			a.Up == b.Up && slices.Equal(a.Attrs, b.Attrs) && slices.Equal(a.Kids, b.Kids)
	})
}
