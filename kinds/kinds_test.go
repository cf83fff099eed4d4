package kinds

import (
	"math"
	"slices"
	"strings"
	"testing"

	"hoarding/api"
)

// The lists as the chapter tells them.
const (
	allSpecial    = "address applet area article aside base basefont bgsound blockquote body br button caption center col colgroup dd details dir div dl dt embed fieldset figcaption figure footer form frame frameset h1 h2 h3 h4 h5 h6 head header hgroup hr html iframe img input keygen li link listing main marquee menu meta nav noembed noframes noscript object ol optgroup option p param plaintext pre script search section select source style summary table tbody td template textarea tfoot th thead title tr track ul wbr xmp"
	allMath       = "annotation-xml mi mn mo ms mtext"
	allSvg        = "desc foreignObject title"
	allFormatting = "a b big code em font i nobr s small strike strong tt u"
	allVoid       = "area base basefont bgsound br col embed frame hr img input keygen link meta param source track wbr"
	allHeading    = "h1 h2 h3 h4 h5 h6"
	allImplied    = "dd dt li optgroup option p rb rp rt rtc"
	allMarker     = "applet caption marquee object td th"
	allDefault    = "applet caption html marquee object table td template th"
	allItem       = allDefault + " ol ul"
	allButton     = allDefault + " button"
	allTable      = "html table template"
	noSelect      = "optgroup option"
	allBlock      = "address article aside blockquote center details dialog dir div dl fieldset figcaption figure footer header hgroup listing main menu nav ol p pre search section summary ul"
	allBreakout   = "b big blockquote body br center code dd div dl dt em embed h1 h2 h3 h4 h5 h6 head hr i img li listing menu meta nobr ol p pre ruby s small span strong strike sub sup table tt u ul var"
	allRcdata     = "textarea title"
	allRawtext    = "iframe noembed noframes style xmp"
)

// spaces are the namespaces, and numbers that are none.
var spaces = []int{api.Html, api.Svg, api.Math, -1, 3, 256, 1 << 32, math.MinInt, math.MaxInt}

// lists are what the names of one function are, of each namespace.
type lists map[int]string

// has tells whether the name is of the list of the namespace.
func (l lists) has(space int, name string) bool {
	return slices.Contains(strings.Fields(l[space]), name)
}

// names are all names of all lists, others of Html, Svg and Math, and what is nearly a name.
func names() []string {
	known := strings.Fields(strings.Join([]string{allSpecial, allMath, allSvg, allFormatting, allVoid, allHeading, allImplied, allMarker, allItem, allButton, allTable, noSelect, allBlock, allBreakout, allRcdata, allRawtext}, " "))
	known = append(known, strings.Fields("abbr audio bdi canvas cite data del dfn ins kbd label legend map mark math meter output picture progress q rt ruby samp slot span sub svg time var video h7 h0 rb rtc annotation circle g path maction mglyph malignmark mrow semantics image foreignobject isindex command x-y")...)
	out := []string{"", " ", "\n", "\u00a0", "\xff", "div p", "a b", "h1 h2", "tr track", "option p", "td th", "h1\th2", "div\x00", "ｄｉｖ", "\u017f", "\u212a", "é", allSpecial, allMath, allSvg, allHeading, allTable, strings.Repeat("p", 1<<16)}
	for _, name := range known {
		out = append(out, name, strings.ToUpper(name), strings.ToLower(name), strings.ToUpper(name[:1])+name[1:], name[1:], name[:len(name)-1], name+"x", "x"+name, name+" ", " "+name, "\t"+name+"\n", "<"+name, name+">", "/"+name, name+"s", name+name)
	}
	slices.Sort(out)
	return slices.Compact(out)
}

// look holds a function of a namespace and a name against its lists, of all names in all namespaces.
func look(t *testing.T, call string, f func(space int, name string) bool, l lists) {
	t.Helper()
	for _, space := range spaces {
		for _, name := range names() {
			if got := f(space, name); got != l.has(space, name) {
				t.Errorf("%s(%d, %q) = %v", call, space, name, got)
			}
		}
	}
}

// P6.1: Special, of Html, Svg and Math.
func TestSpecial(t *testing.T) {
	look(t, "Special", Special, lists{api.Html: allSpecial, api.Svg: allSvg, api.Math: allMath})
}

// P6.1: those that are of Html alone.
func TestOfHtml(t *testing.T) {
	look(t, "Formatting", Formatting, lists{api.Html: allFormatting})
	look(t, "Void", Void, lists{api.Html: allVoid})
	look(t, "Heading", Heading, lists{api.Html: allHeading})
	look(t, "Implied", Implied, lists{api.Html: allImplied})
	look(t, "Marker", Marker, lists{api.Html: allMarker})
}

// P6.1: some by hand, of names that are told otherwise in another namespace, or in other capitals.
func TestByHand(t *testing.T) {
	yes := []bool{
		Special(api.Html, "p"), Special(api.Html, "title"), Special(api.Svg, "title"), Special(api.Svg, "foreignObject"), Special(api.Math, "mi"), Special(api.Math, "annotation-xml"),
		Formatting(api.Html, "a"), Formatting(api.Html, "u"), Void(api.Html, "area"), Void(api.Html, "wbr"), Heading(api.Html, "h6"), Implied(api.Html, "rtc"), Marker(api.Html, "th"),
	}
	no := []bool{
		Special(api.Svg, "p"), Special(api.Math, "title"), Special(api.Svg, "mi"), Special(api.Html, "mi"), Special(api.Html, "foreignObject"), Special(api.Html, "desc"), Special(api.Svg, "foreignobject"), Special(api.Html, "P"), Special(api.Html, ""), Special(3, "p"),
		Formatting(api.Svg, "a"), Formatting(api.Math, "b"), Formatting(api.Html, "A"), Formatting(api.Html, "span"), Void(api.Svg, "img"), Void(api.Html, "p"), Void(api.Html, "image"), Void(api.Html, "Br"),
		Heading(api.Html, "h7"), Heading(api.Html, "h"), Heading(api.Html, "h0"), Heading(api.Html, "head"), Heading(api.Svg, "h1"), Implied(api.Html, "td"), Implied(api.Math, "p"), Marker(api.Html, "template"), Marker(api.Svg, "td"),
	}
	if slices.Contains(yes, false) {
		t.Errorf("not all of these hold: %v", yes)
	}
	if slices.Contains(no, true) {
		t.Errorf("one of these holds: %v", no)
	}
}

// P6.2: each scope, of all names in all namespaces; scopes that are none are ended by all.
func TestStops(t *testing.T) {
	scopes := map[int]lists{
		api.Default: {api.Html: allDefault, api.Svg: allSvg, api.Math: allMath},
		api.Item:    {api.Html: allItem, api.Svg: allSvg, api.Math: allMath},
		api.Button:  {api.Html: allButton, api.Svg: allSvg, api.Math: allMath},
		api.Table:   {api.Html: allTable},
	}
	for scope, l := range scopes {
		look(t, "Stops of a scope", func(space int, name string) bool { return Stops(scope, space, name) }, l)
	}
	passes := lists{api.Html: noSelect}
	look(t, "not Stops of Select", func(space int, name string) bool { return !Stops(api.Select, space, name) }, passes)
	for _, scope := range []int{-1, 5, 6, 256, 1 << 32, math.MinInt, math.MaxInt} {
		look(t, "not Stops of no scope", func(space int, name string) bool { return !Stops(scope, space, name) }, lists{})
	}
}

// P6.2: some by hand, of names that end one scope, and not another.
func TestStopsByHand(t *testing.T) {
	cases := []struct {
		space int
		name  string
		want  [6]bool // of Default, Item, Button, Table, Select, and a scope that is none
	}{
		{api.Html, "table", [6]bool{true, true, true, true, true, true}}, {api.Html, "html", [6]bool{true, true, true, true, true, true}}, {api.Html, "template", [6]bool{true, true, true, true, true, true}},
		{api.Html, "td", [6]bool{true, true, true, false, true, true}}, {api.Html, "ol", [6]bool{false, true, false, false, true, true}}, {api.Html, "ul", [6]bool{false, true, false, false, true, true}},
		{api.Html, "button", [6]bool{false, false, true, false, true, true}}, {api.Html, "p", [6]bool{false, false, false, false, true, true}}, {api.Html, "select", [6]bool{false, false, false, false, true, true}},
		{api.Html, "option", [6]bool{false, false, false, false, false, true}}, {api.Html, "optgroup", [6]bool{false, false, false, false, false, true}}, {api.Html, "", [6]bool{false, false, false, false, true, true}},
		{api.Svg, "title", [6]bool{true, true, true, false, true, true}}, {api.Svg, "desc", [6]bool{true, true, true, false, true, true}}, {api.Math, "mi", [6]bool{true, true, true, false, true, true}}, {api.Math, "annotation-xml", [6]bool{true, true, true, false, true, true}},
		{api.Svg, "table", [6]bool{false, false, false, false, true, true}}, {api.Math, "td", [6]bool{false, false, false, false, true, true}}, {api.Svg, "ol", [6]bool{false, false, false, false, true, true}}, {api.Math, "button", [6]bool{false, false, false, false, true, true}},
		{api.Svg, "option", [6]bool{false, false, false, false, true, true}}, {api.Math, "optgroup", [6]bool{false, false, false, false, true, true}}, {api.Svg, "html", [6]bool{false, false, false, false, true, true}}, {api.Html, "mi", [6]bool{false, false, false, false, true, true}},
		{api.Html, "OPTION", [6]bool{false, false, false, false, true, true}}, {api.Html, "Table", [6]bool{false, false, false, false, true, true}}, {3, "table", [6]bool{false, false, false, false, true, true}}, {-1, "option", [6]bool{false, false, false, false, true, true}},
	}
	for _, c := range cases {
		for scope, want := range c.want {
			if got := Stops(scope, c.space, c.name); got != want {
				t.Errorf("Stops(%d, %d, %q) = %v", scope, c.space, c.name, got)
			}
		}
	}
}

// P6.3: Block, Breakout and Lexed, of all names.
func TestByNameAlone(t *testing.T) {
	states := map[int]string{api.Rcdata: allRcdata, api.Rawtext: allRawtext, api.Script: "script", api.Plaintext: "plaintext"}
	for _, name := range names() {
		if got := Block(name); got != (lists{0: allBlock}).has(0, name) {
			t.Errorf("Block(%q) = %v", name, got)
		}
		if got := Breakout(name); got != (lists{0: allBreakout}).has(0, name) {
			t.Errorf("Breakout(%q) = %v", name, got)
		}
		want := api.Data
		for state := range states {
			if lists(states).has(state, name) {
				want = state
			}
		}
		if got := Lexed(name); got != want {
			t.Errorf("Lexed(%q) = %d, not %d", name, got, want)
		}
	}
}

// P6.3: some by hand: each state, and names that are nearly in a list.
func TestByNameAloneByHand(t *testing.T) {
	states := map[string]int{
		"textarea": api.Rcdata, "title": api.Rcdata, "iframe": api.Rawtext, "noembed": api.Rawtext, "noframes": api.Rawtext, "style": api.Rawtext, "xmp": api.Rawtext, "script": api.Script, "plaintext": api.Plaintext,
		"": api.Data, "p": api.Data, "noscript": api.Data, "pre": api.Data, "listing": api.Data, "TITLE": api.Data, "Script": api.Data, "textarea title": api.Data, "style ": api.Data, "frame": api.Data, "script\x00": api.Data,
	}
	for name, want := range states {
		if got := Lexed(name); got != want {
			t.Errorf("Lexed(%q) = %d, not %d", name, got, want)
		}
	}
	if !Block("search") || !Block("dialog") || !Block("p") || Block("li") || Block("h1") || Block("form") || Block("DIV") || Block("") || Block("table") {
		t.Error("Block: not so")
	}
	if !Breakout("ruby") || !Breakout("var") || !Breakout("table") || Breakout("font") || Breakout("a") || Breakout("svg") || Breakout("B") || Breakout("") || Breakout("tr") {
		t.Error("Breakout: not so")
	}
}

// P6.4: each Heading, and each Void, is Special; each that ends the scope Table ends Default, too.
func TestFollows(t *testing.T) {
	headings, voids, ends := 0, 0, 0
	for _, space := range spaces {
		for _, name := range names() {
			special := Special(space, name)
			if Heading(space, name) {
				headings++
				if !special {
					t.Errorf("heading %q of %d is not Special", name, space)
				}
			}
			if Void(space, name) {
				voids++
				if !special {
					t.Errorf("void %q of %d is not Special", name, space)
				}
			}
			if Stops(api.Table, space, name) {
				ends++
				if !Stops(api.Default, space, name) {
					t.Errorf("%q of %d ends Table, and not Default", name, space)
				}
			}
		}
	}
	if headings != 6 || voids != 18 || ends != 3 {
		t.Errorf("%d headings, %d that are void, %d that end Table", headings, voids, ends)
	}
}

// P0: great names come to an end, too.
func TestGreat(t *testing.T) {
	for _, name := range []string{strings.Repeat("p", 1<<24), strings.Repeat(" ", 1<<24), strings.Repeat("p ", 1<<23), strings.Repeat("\xff", 1<<24)} {
		for _, space := range spaces {
			if Special(space, name) || Formatting(space, name) || Void(space, name) || Heading(space, name) || Implied(space, name) || Marker(space, name) {
				t.Error("a great name is told to be one")
			}
			if Stops(api.Default, space, name) || Stops(api.Item, space, name) || Stops(api.Button, space, name) || Stops(api.Table, space, name) || !Stops(api.Select, space, name) || !Stops(-1, space, name) {
				t.Error("a great name ends another scope")
			}
		}
		if Block(name) || Breakout(name) || Lexed(name) != api.Data {
			t.Error("a great name is told to be one")
		}
	}
}
