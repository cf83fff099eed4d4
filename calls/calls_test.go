// Package calls holds the calls of all layers against the chapters: it is built only if each of them is there, with its signature.
package calls

import (
	"testing"

	"hoarding/active"
	"hoarding/address"
	"hoarding/adopt"
	"hoarding/allow"
	"hoarding/api"
	"hoarding/ascii"
	"hoarding/attr"
	"hoarding/body"
	"hoarding/build"
	"hoarding/chain"
	"hoarding/charref"
	"hoarding/choose"
	"hoarding/clean"
	"hoarding/desk"
	"hoarding/docs"
	"hoarding/dump"
	"hoarding/early"
	"hoarding/ends"
	"hoarding/escape"
	"hoarding/filter"
	"hoarding/foreign"
	"hoarding/forms"
	"hoarding/guard"
	"hoarding/ids"
	"hoarding/kinds"
	"hoarding/lexer"
	"hoarding/normal"
	"hoarding/order"
	"hoarding/owner"
	"hoarding/page"
	"hoarding/place"
	"hoarding/policy"
	"hoarding/raw"
	"hoarding/refer"
	"hoarding/remark"
	"hoarding/rename"
	"hoarding/report"
	"hoarding/script"
	"hoarding/serial"
	"hoarding/shape"
	"hoarding/slot"
	"hoarding/stable"
	"hoarding/stack"
	"hoarding/state"
	"hoarding/steady"
	"hoarding/table"
	"hoarding/tag"
	"hoarding/tree"
	"hoarding/utf"
	"hoarding/window"
	"hoarding/words"
)

var (
	// Layer 1.
	_ func(s string) string  = ascii.Lower
	_ func(a, b string) bool = ascii.Fold
	_ func(c byte) bool      = ascii.Space
	_ func(c byte) bool      = ascii.Letter
	_ func(c byte) int       = ascii.Hex
	_ func(s string) bool    = ascii.Blank
	_ func(s string) string  = ascii.Trim
	// Layer 2.
	_ func(b []byte) string = utf.Decode
	_ func(n int) string    = utf.Encode
	_ func(s string) bool   = utf.Valid
	_ func(s string) int    = utf.Count
	// Layer 3.
	_ func(s string) []string      = words.Split
	_ func(l []string) string      = words.Join
	_ func(list, word string) bool = words.In
	_ func(l []string) []string    = words.Once
	// Layer 4.
	_ func(name string) (string, bool)         = charref.Named
	_ func(n int) string                       = charref.Numbered
	_ func(s string, value bool) (string, int) = charref.Read
	_ func(s string, value bool) string        = charref.Decode
	// Layer 5.
	_ func(s string) string = escape.Text
	_ func(s string) string = escape.Value
	_ func(s string) int    = escape.Size
	// Layer 6.
	_ func(space int, name string) bool        = kinds.Special
	_ func(space int, name string) bool        = kinds.Formatting
	_ func(space int, name string) bool        = kinds.Void
	_ func(space int, name string) bool        = kinds.Heading
	_ func(space int, name string) bool        = kinds.Implied
	_ func(name string) bool                   = kinds.Block
	_ func(space int, name string) bool        = kinds.Marker
	_ func(scope, space int, name string) bool = kinds.Stops
	_ func(name string) bool                   = kinds.Breakout
	_ func(name string) int                    = kinds.Lexed
	// Layer 7.
	_ func(l []api.Attr, name string) (string, bool) = attr.Get
	_ func(l []api.Attr, a api.Attr) []api.Attr      = attr.Add
	_ func(l []api.Attr, a api.Attr) []api.Attr      = attr.Set
	_ func(l []api.Attr, name string) []api.Attr     = attr.Drop
	_ func(a, b []api.Attr) bool                     = attr.Same
	_ func(a, b []api.Attr) bool                     = attr.Alike
	// Layer 8.
	_ func(s string) (api.Token, int, bool) = tag.Read
	_ func(s, name string) bool             = tag.Closes
	// Layer 9.
	_ func(s string, foreign bool) (api.Token, int, bool) = remark.Read
	// Layer 10.
	_ func(s, name string, state int) int = raw.Find
	// Layer 11.
	_ func(s string) *lexer.Lexer                                          = lexer.New
	_ func(x *lexer.Lexer, state int, last string, foreign bool) api.Token = (*lexer.Lexer).Next
	_ func(x *lexer.Lexer) string                                          = (*lexer.Lexer).Left
	_ func(s string) []api.Token                                           = lexer.All
	// Layer 12.
	_ func() api.Tree                    = tree.New
	_ func(t *api.Tree, n api.Node) int  = tree.Add
	_ func(t *api.Tree, kid int)         = tree.Cut
	_ func(t *api.Tree, up, at, kid int) = tree.Put
	_ func(t *api.Tree, from, to int)    = tree.Move
	_ func(t api.Tree, kid int) int      = tree.Place
	_ func(t api.Tree, up, kid int) bool = tree.Holds
	// Layer 13.
	_ func(t api.Tree) []int        = order.List
	_ func(t api.Tree) []complex128 = order.Marks
	_ func(a, b complex128) bool    = order.Inside
	_ func(t api.Tree, i int) []int = order.Path
	_ func(t api.Tree) int          = order.Deep
	// Layer 14.
	_ func(t api.Tree) bool            = shape.Right
	_ func(t api.Tree) api.Tree        = shape.Tidy
	_ func(a, b api.Tree) bool         = shape.Same
	_ func(t api.Tree, i int) api.Tree = shape.Sub
	_ func(t api.Tree) int             = shape.Size
	// Layer 15.
	_ func(open []int) int                                       = stack.Top
	_ func(t api.Tree, i int, names string) bool                 = stack.Is
	_ func(t api.Tree, open []int, names string, scope int) bool = stack.Has
	_ func(t api.Tree, open []int, name string) int              = stack.Find
	_ func(t api.Tree, open []int, names string) []int           = stack.Pop
	_ func(t api.Tree, open []int, but string) []int             = stack.Implied
	_ func(t api.Tree, open []int, names string) []int           = stack.To
	_ func(open []int, i int) []int                              = stack.Drop
	// Layer 16.
	_ func(t api.Tree, l []int, i int) []int     = active.Push
	_ func(l []int) []int                        = active.Clear
	_ func(t api.Tree, l []int, name string) int = active.Find
	_ func(l []int, i int) []int                 = active.Drop
	_ func(l []int, i, by int) []int             = active.Swap
	_ func(l []int, i int) int                   = active.At
	_ func(l []int, at, i int) []int             = active.Into
	// Layer 17.
	_ func(inside string) *state.State                   = state.New
	_ func(x *state.State) api.Node                      = (*state.State).Adjusted
	_ func(x *state.State, names string) bool            = (*state.State).Is
	_ func(x *state.State, names string, scope int) bool = (*state.State).Has
	_ func(x *state.State, names string)                 = (*state.State).Pop
	_ func(x *state.State, but string)                   = (*state.State).Implied
	_ func(x *state.State, names string)                 = (*state.State).To
	_ func(x *state.State)                               = (*state.State).Paragraph
	_ func(x *state.State)                               = (*state.State).Reset
	// Layer 18.
	_ func(s *state.State, target int) (int, int)      = place.Where
	_ func(s *state.State, t api.Token, space int) int = place.Elem
	_ func(s *state.State, text string)                = place.Chars
	_ func(s *state.State, data string, up int)        = place.Note
	// Layer 19.
	_ func(s *state.State)                   = adopt.Reconstruct
	_ func(s *state.State, name string) bool = adopt.Run
	// Layer 20.
	_ func(n api.Node) bool                   = foreign.Point
	_ func(n api.Node) bool                   = foreign.Texts
	_ func(t api.Token, space int) api.Token  = foreign.Adjust
	_ func(s *state.State, t api.Token) bool  = foreign.Is
	_ func(s *state.State, t *api.Token) bool = foreign.Step
	// Layer 21.
	_ func(s *state.State, t *api.Token) bool = ends.Step
	_ func(s *state.State, name string)       = ends.Other
	// Layer 22.
	_ func(s *state.State, t *api.Token) bool = body.Step
	_ func(s *state.State, t *api.Token) bool = body.Meta
	// Layer 23.
	_ func(text string) (string, string)      = table.Cut
	_ func(s *state.State, t *api.Token) bool = table.Step
	// Layer 24.
	_ func(s *state.State, t *api.Token) bool = choose.Step
	// Layer 25.
	_ func(s *state.State, t *api.Token) bool = early.Step
	// Layer 26.
	_ func(s *state.State, t *api.Token) bool = build.Step
	_ func(s *state.State, text string)       = build.Run
	_ func(text string) api.Tree              = build.Document
	_ func(text, inside string) api.Tree      = build.Fragment
	// Layer 27.
	_ func(t api.Tree) string        = serial.Tree
	_ func(t api.Tree, i int) string = serial.Node
	_ func(n api.Node) bool          = serial.Raw
	// Layer 28.
	_ func(space int, name string) bool                   = steady.Known
	_ func(path []api.Node, names string, scope int) bool = steady.Scope
	_ func(path []api.Node, n api.Node) bool              = steady.May
	_ func(path []api.Node, text string) bool             = steady.Chars
	_ func(n api.Node) bool                               = steady.Attrs
	_ func(t api.Tree) bool                               = steady.Tree
	// Layer 29.
	_ func(t api.Tree) bool        = stable.Check
	_ func(s string) string        = stable.Round
	_ func(s string, n int) string = stable.Rounds
	_ func(s string) bool          = stable.Fixed
	// Layer 30.
	_ func(space int, name string) string = policy.Key
	_ func(key string) (int, string)      = policy.Split
	_ func(p api.Policy) api.Errno        = policy.Check
	_ func() api.Policy                   = policy.Usual
	_ func(name string) bool              = policy.Attribute
	// Layer 31.
	_ func(s string) string                 = address.Bare
	_ func(s string) (string, bool)         = address.Scheme
	_ func(schemes []string, s string) bool = address.Allowed
	_ func(s string) (string, bool)         = address.Fragment
	// Layer 32.
	_ func(p api.Policy, n api.Node) bool                         = allow.Elem
	_ func(n api.Node) bool                                       = allow.Gone
	_ func(n api.Node, name string) bool                          = allow.Fits
	_ func(p api.Policy, n api.Node, a api.Attr) (api.Attr, bool) = allow.Attr
	// Layer 33.
	_ func(p api.Policy, t api.Tree) api.Tree = filter.Tree
	// Layer 34.
	_ func(t api.Tree) api.Tree = normal.Tree
	// Layer 35.
	_ func(t api.Tree, i int, name string) string = ids.Value
	_ func(t api.Tree, id string) int             = ids.First
	_ func(t api.Tree, name string) int           = ids.Map
	_ func(t api.Tree, word string) int           = ids.Target
	_ func(t api.Tree) []string                   = ids.All
	// Layer 36.
	_ func(n api.Node, name string) int              = refer.Kind
	_ func(kind int, value string) []string          = refer.Words
	_ func(t api.Tree, i int, name, word string) int = refer.To
	_ func(t api.Tree) []api.Ref                     = refer.Of
	// Layer 37.
	_ func(prefix string, n api.Node, a api.Attr) string = rename.Value
	_ func(prefix string, t api.Tree) api.Tree           = rename.Tree
	_ func(n, prefix int) int                            = rename.Most
	// Layer 38.
	_ func(b []byte, p api.Policy) (api.Tree, api.Errno) = clean.Kept
	_ func(b []byte, p api.Policy) (api.Tree, api.Errno) = clean.Final
	_ func(b []byte, p api.Policy) (string, api.Errno)   = clean.Sanitize
	// Layer 39.
	_ func(b []byte, p api.Policy) ([]string, api.Errno)   = report.Tried
	_ func(b []byte, p api.Policy) ([]api.Attr, api.Errno) = report.Hidden
	_ func(b []byte, p api.Policy) (int, int, api.Errno)   = report.Lost
	// Layer 40.
	_ func(n api.Node) bool  = owner.Listed
	_ func(t api.Tree) []int = owner.Of
	// Layer 41.
	_ func(t api.Tree, name string) []int = window.Named
	// Layer 42.
	_ func(t api.Tree, name string) []int = docs.Named
	// Layer 43.
	_ func(t api.Tree, form int) []int              = forms.Elements
	_ func(t api.Tree, form int, name string) []int = forms.Named
	_ func(t api.Tree, l []int, name string) []int  = forms.Item
	// Layer 44.
	_ func(t api.Tree, object int, name string) []int    = chain.Start
	_ func(t api.Tree, l []int, name string) []int       = chain.Step
	_ func(t api.Tree, object int, names []string) []int = chain.Run
	// Layer 45.
	_ func(x api.Page, prefix string) bool     = page.Right
	_ func(x api.Page, slot api.Tree) api.Tree = page.Tree
	_ func(x api.Page, out string) string      = page.Bytes
	// Layer 46.
	_ func(t api.Tree, x api.Page) int = slot.Find
	_ func(t api.Tree, i int) []int    = slot.Below
	_ func(t api.Tree, i int) api.Tree = slot.Outside
	_ func(t api.Tree, i, n int) int   = slot.Where
	// Layer 47.
	_ func(t api.Tree) []string                                   = guard.Names
	_ func(x api.Page, p api.Policy, out string) []int            = guard.Faults
	_ func(x api.Page, p api.Policy, b []byte) ([]int, api.Errno) = guard.Check
	// Layer 48.
	_ func(s string) string                = dump.Quote
	_ func(t api.Tree) string              = dump.Lines
	_ func(s string) (api.Tree, api.Errno) = dump.Read
	// Layer 49.
	_ func(p api.Policy) string              = script.Print
	_ func(s string) (api.Policy, api.Errno) = script.Parse
	_ func(a, b api.Policy) bool             = script.Same
	// Layer 50.
	_ func(text string) []string = desk.Run
)

// fields is a State as the chapter writes it: one is converted into the other only if both have the same fields, in their order.
type fields struct {
	Tree   api.Tree
	Open   []int
	Active []int
	Mode   int
	Back   int
	Lex    int
	Form   int
	Head   int
	Foster bool
	Skip   bool
	Inside string
}

var _ = fields(state.State{})

// The numbers that layer 36 names.
func TestNumbers(t *testing.T) {
	if refer.None != 0 || refer.One != 1 || refer.Many != 2 || refer.Hash != 3 {
		t.Error("another number")
	}
}
