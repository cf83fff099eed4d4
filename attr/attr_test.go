package attr

import (
	"slices"
	"strconv"
	"strings"
	"testing"

	"hoarding/api"
)

// pool are attributes of the lists below: empty names and values, one name with two values, and names that differ in capitals alone.
var pool = []api.Attr{{Name: "a", Value: "1"}, {Name: "a", Value: "2"}, {Name: "A", Value: "1"}, {Name: "b", Value: ""}, {Name: "", Value: "1"}, {Name: "", Value: ""}}

// names are those of the pool, and others that are nearly one of them.
var names = []string{"a", "A", "b", "", "B", " ", "a ", "aa", "\x00", "ａ", "c"}

// lists are all lists of up to n attributes of the pool.
func lists(n int) [][]api.Attr {
	out := [][]api.Attr{nil}
	level := out
	for range n {
		var next [][]api.Attr
		for _, l := range level {
			for _, a := range pool {
				next = append(next, append(slices.Clone(l), a))
			}
		}
		out, level = append(out, next...), next
	}
	return out
}

// list is a list as it is written: name=value, parted by blanks.
func list(s string) []api.Attr {
	var out []api.Attr
	for _, w := range strings.Fields(s) {
		name, value, _ := strings.Cut(w, "=")
		out = append(out, api.Attr{Name: name, Value: value})
	}
	return out
}

// written is what list reads.
func written(l []api.Attr) string {
	var words []string
	for _, a := range l {
		words = append(words, a.Name+"="+a.Value)
	}
	return strings.Join(words, " ")
}

// P7.1: Get: one, none, of many the first one; no name is another one, and an empty one is a name.
func TestGet(t *testing.T) {
	cases := []struct {
		l, name, value string
		is             bool
	}{
		{"", "a", "", false}, {"", "", "", false}, {"a=1", "a", "1", true}, {"a=1", "A", "", false}, {"A=1", "a", "", false}, {"a=1", "", "", false},
		{"a=", "a", "", true}, {"a=1 a=2", "a", "1", true}, {"b=1 a=2 a=3", "a", "2", true}, {"a= a=1", "a", "", true}, {"A=1 a=2", "a", "2", true},
		{"=1", "", "1", true}, {"=", "", "", true}, {"a=1 =2 =3", "", "2", true}, {"a=1 b=2 c=3", "c", "3", true}, {"aa=1 a=2", "a", "2", true}, {"a=b", "b", "", false},
		{"href=x id=y", "id", "y", true}, {"xlink:href=x", "href", "", false}, {"ä=1", "ä", "1", true}, {"ä=1", "Ä", "", false}, {"\xff=1", "\xfe", "", false}, {"\xff=\xfe", "\xff", "\xfe", true},
	}
	for _, c := range cases {
		if value, is := Get(list(c.l), c.name); value != c.value || is != c.is {
			t.Errorf("Get(%q, %q) = %q, %v", c.l, c.name, value, is)
		}
	}
}

// P7.1: Add, Set and Drop: of no list, of names once and many times, ahead of others and behind them.
func TestChanged(t *testing.T) {
	cases := []struct{ l, a, add, set, drop string }{
		{"", "a=1", "a=1", "a=1", ""}, {"", "=", "=", "=", ""},
		{"a=1", "a=2", "a=1", "a=2", ""}, {"a=1", "a=", "a=1", "a=", ""}, {"a=", "a=1", "a=", "a=1", ""}, {"a=1", "a=1", "a=1", "a=1", ""},
		{"a=1", "A=2", "a=1 A=2", "a=1 A=2", "a=1"}, {"a=1", "=2", "a=1 =2", "a=1 =2", "a=1"}, {"=1", "=2", "=1", "=2", ""}, {"=1 a=2", "=3", "=1 a=2", "=3 a=2", "a=2"},
		{"a=1 b=2", "c=3", "a=1 b=2 c=3", "a=1 b=2 c=3", "a=1 b=2"}, {"a=1 b=2", "b=3", "a=1 b=2", "a=1 b=3", "a=1"}, {"a=1 b=2", "a=3", "a=1 b=2", "a=3 b=2", "b=2"},
		{"a=1 a=2", "a=3", "a=1 a=2", "a=3 a=2", ""}, {"a=1 b=2 a=3", "a=4", "a=1 b=2 a=3", "a=4 b=2 a=3", "b=2"}, {"b=1 a=2 b=3 a=4 c=5", "a=6", "b=1 a=2 b=3 a=4 c=5", "b=1 a=6 b=3 a=4 c=5", "b=1 b=3 c=5"},
		{"A=1 a=2 A=3", "a=4", "A=1 a=2 A=3", "A=1 a=4 A=3", "A=1 A=3"}, {"aa=1 ab=2", "a=3", "aa=1 ab=2 a=3", "aa=1 ab=2 a=3", "aa=1 ab=2"}, {"b=a", "a=b", "b=a a=b", "b=a a=b", "b=a"},
		{"\xff=1", "\xfe=2", "\xff=1 \xfe=2", "\xff=1 \xfe=2", "\xff=1"}, {"ä=1", "ä=ö", "ä=1", "ä=ö", ""},
	}
	for _, c := range cases {
		l, a := list(c.l), list(c.a)[0]
		if got := written(Add(l, a)); got != c.add {
			t.Errorf("Add(%q, %q) = %q", c.l, c.a, got)
		}
		if got := written(Set(l, a)); got != c.set {
			t.Errorf("Set(%q, %q) = %q", c.l, c.a, got)
		}
		if got := written(Drop(l, a.Name)); got != c.drop {
			t.Errorf("Drop(%q, %q) = %q", c.l, a.Name, got)
		}
	}
}

// P7.2: lists that are the same, lists that are alike, and lists that are neither.
func TestHeld(t *testing.T) {
	cases := []struct {
		a, b        string
		same, alike bool
	}{
		{"", "", true, true}, {"", "a=1", false, false}, {"", "=", false, false}, {"a=1", "a=1", true, true}, {"a=1", "a=2", false, false}, {"a=1", "b=1", false, false}, {"a=1", "A=1", false, false},
		{"a=b", "b=a", false, false}, {"a=1", "a=", false, false}, {"=", "=", true, true}, {"=a", "a=", false, false}, {"ab=c", "a=bc", false, false},
		{"a=1 b=2", "b=2 a=1", false, true}, {"a=1 b=2", "a=1 b=2", true, true}, {"a=1 b=2", "a=2 b=1", false, false}, {"a=1 b=2", "a=1", false, false}, {"a=1 b=2", "b=2", false, false},
		{"a=1 b=2 c=3", "c=3 a=1 b=2", false, true}, {"a=1 b=2 c=3", "a=1 b=2 d=3", false, false}, {"a=1 b=2 c=3", "a=1 b=2", false, false},
		{"a=1 a=1", "a=1", false, false}, {"a=1 a=1", "a=1 b=2", false, false}, {"a=1 a=1", "a=1 a=1", true, true}, {"a=1 a=2", "a=2 a=1", false, true}, {"a=1 a=2", "a=1 a=1", false, false},
		{"a=1 a=1 b=2", "a=1 b=2 b=2", false, true}, {"a=1 b=2 b=2", "b=2 a=1 a=1", false, true}, {"a=1 a=1 b=2", "a=1 a=1 a=1", false, false}, {"a=1 a=1 b=2", "b=2 a=1 a=1", false, true},
		{"a=1 a=1 b=2 c=3", "c=3 b=2 b=2 a=1", false, true}, {"a=1 a=1 b=2 c=3", "a=1 b=2 b=2 b=2", false, false}, {"=1 = =1", "= =1 =", false, true}, {"\xff=1", "\xfe=1", false, false},
	}
	for _, c := range cases {
		a, b := list(c.a), list(c.b)
		if Same(a, b) != c.same || Same(b, a) != c.same {
			t.Errorf("Same(%q, %q) = %v, the other way %v", c.a, c.b, Same(a, b), Same(b, a))
		}
		if Alike(a, b) != c.alike || Alike(b, a) != c.alike {
			t.Errorf("Alike(%q, %q) = %v, the other way %v", c.a, c.b, Alike(a, b), Alike(b, a))
		}
	}
	if !Same(nil, []api.Attr{}) || !Alike([]api.Attr{}, nil) {
		t.Error("an empty list is not as none")
	}
}

// modelAt is where the first one of that name is, by the chapter's words; -1 without one.
func modelAt(l []api.Attr, name string) int {
	for i := range l {
		if l[i].Name == name {
			return i
		}
	}
	return -1
}

// modelSet is Set by the chapter's words; modelAdd, if there is none.
func modelSet(l []api.Attr, a api.Attr) []api.Attr {
	at := modelAt(l, a.Name)
	if at < 0 {
		return modelAdd(l, a)
	}
	return slices.Concat(l[:at], []api.Attr{a}, l[at+1:])
}

func modelAdd(l []api.Attr, a api.Attr) []api.Attr {
	if modelAt(l, a.Name) >= 0 {
		return l
	}
	return slices.Concat(l, []api.Attr{a})
}

func modelDrop(l []api.Attr, name string) []api.Attr {
	return slices.DeleteFunc(slices.Clone(l), func(a api.Attr) bool { return a.Name == name })
}

func modelAlike(a, b []api.Attr) bool {
	for _, x := range a {
		if !slices.Contains(b, x) {
			return false
		}
	}
	for _, x := range b {
		if !slices.Contains(a, x) {
			return false
		}
	}
	return len(a) == len(b)
}

// P7.1: all short lists, held against a model of the chapter's words, with every attribute, and every name.
func TestModel(t *testing.T) {
	for _, l := range lists(4) {
		was := slices.Clone(l)
		for _, name := range names {
			value, is := Get(l, name)
			if at := modelAt(l, name); is != (at >= 0) || is && value != l[at].Value || !is && value != "" {
				t.Fatalf("Get(%q, %q) = %q, %v", l, name, value, is)
			}
			if got := Drop(l, name); !slices.Equal(got, modelDrop(l, name)) {
				t.Fatalf("Drop(%q, %q) = %q", l, name, got)
			}
			for _, value := range []string{"", "1", "3"} {
				a := api.Attr{Name: name, Value: value}
				if got := Add(l, a); !slices.Equal(got, modelAdd(l, a)) {
					t.Fatalf("Add(%q, %q) = %q", l, a, got)
				}
				if got := Set(l, a); !slices.Equal(got, modelSet(l, a)) {
					t.Fatalf("Set(%q, %q) = %q", l, a, got)
				}
			}
		}
		if !slices.Equal(l, was) {
			t.Fatalf("%q became %q", was, l)
		}
	}
}

// P7.2, P7.3: all short lists against each other: Alike goes both ways, and what is the Same is Alike.
func TestHeldModel(t *testing.T) {
	all := lists(3)
	for _, a := range all {
		for _, b := range all {
			same, alike := Same(a, b), Alike(a, b)
			if same != slices.Equal(a, b) || alike != modelAlike(a, b) {
				t.Fatalf("%q and %q: the same %v, alike %v", a, b, same, alike)
			}
			if alike != Alike(b, a) || same && !alike {
				t.Fatalf("%q and %q: the same %v, alike %v, the other way %v", a, b, same, alike, Alike(b, a))
			}
		}
	}
}

// P7.3: what is set is got, what is dropped is not there, and nothing else goes; what was added twice is there once.
func TestFollows(t *testing.T) {
	for _, l := range lists(3) {
		for _, name := range names {
			a := api.Attr{Name: name, Value: "new"}
			set := Set(l, a)
			if value, is := Get(set, name); !is || value != "new" {
				t.Fatalf("%q with %q set: %q, %v", l, a, value, is)
			}
			if !Same(Drop(set, name), Drop(l, name)) || !Same(Set(set, a), set) || !Same(Add(set, a), set) {
				t.Fatalf("%q with %q set is %q", l, a, set)
			}
			if value, is := Get(Drop(l, name), name); is || value != "" {
				t.Fatalf("%q with %q dropped: %q", l, name, value)
			}
			if once := Add(l, a); !Same(Add(once, a), once) || !Same(Add(once, api.Attr{Name: name}), once) {
				t.Fatalf("%q with %q added twice", l, a)
			}
		}
	}
}

// Rules: no list that came in is changed or shared, and what lies behind its length plays no part.
func TestKeepsApart(t *testing.T) {
	whole := list("a=1 b=2 a=3 c=4")
	l, behind := whole[:2], slices.Clone(whole)
	if _, is := Get(l, "c"); is || !Same(l, list("a=1 b=2")) || !Alike(l, list("b=2 a=1")) {
		t.Error("what lies behind a list is seen")
	}
	for _, name := range []string{"a", "b", "c", ""} {
		a := api.Attr{Name: name, Value: "x"}
		for _, out := range [][]api.Attr{Add(l, a), Set(l, a), Drop(l, name)} {
			if !slices.Equal(whole, behind) {
				t.Fatalf("%q became %q", behind, whole)
			}
			for i := range out {
				out[i] = api.Attr{Name: "mine", Value: "mine"}
			}
			_ = append(out, api.Attr{Name: "mine"}, api.Attr{Name: "mine"}, api.Attr{Name: "mine"})
			if !slices.Equal(whole, behind) {
				t.Fatalf("what was answered is shared: %q became %q", behind, whole)
			}
		}
	}
	first := Add(l, api.Attr{Name: "x", Value: "1"})
	second := Add(l, api.Attr{Name: "y", Value: "2"})
	if written(first) != "a=1 b=2 x=1" || written(second) != "a=1 b=2 y=2" {
		t.Errorf("answers share: %q, %q", first, second)
	}
}

// P0: great lists and great texts; alike, the last one, and none, are told soon.
func TestGreat(t *testing.T) {
	var l, back []api.Attr
	for i := range 1 << 18 {
		l = append(l, api.Attr{Name: strconv.Itoa(i), Value: "v"})
	}
	back = slices.Clone(l)
	slices.Reverse(back)
	if Same(l, back) || !Alike(l, back) || !Same(l, slices.Clone(l)) || Alike(l, l[1:]) || Alike(l, Set(l, api.Attr{Name: "7"})) {
		t.Error("great lists are held against each other otherwise")
	}
	if value, is := Get(back, "0"); !is || value != "v" {
		t.Error("the last one is not found")
	}
	if len(Add(l, api.Attr{Name: "x"})) != len(l)+1 || len(Drop(l, "0")) != len(l)-1 || len(Drop(make([]api.Attr, 1<<18), "")) != 0 {
		t.Error("great lists are changed otherwise")
	}
	s := strings.Repeat("x", 1<<23)
	if value, is := Get([]api.Attr{{Name: s[1:], Value: "1"}, {Name: s, Value: s}}, s); !is || value != s {
		t.Error("a great name is not found")
	}
	if Alike([]api.Attr{{Name: s, Value: "1"}}, []api.Attr{{Name: s, Value: "2"}}) {
		t.Error("great names are alike")
	}
}
