package parse

import (
	"math"
	"slices"
	"strings"

	"glossary/api"
	"glossary/names"
	"glossary/node"
	"glossary/quote"
)

const (
	maxOpen = 30 // braces
	dot     = "."
)

// reader reads tokens one by one, up to their end, which it never goes beyond.
type reader struct {
	tokens []api.Token // those that are still to be read
	open   int         // the braces that are
	packed bool        // there was a package
}

// part reads a part of a node and lays down what it has.
type part func(n *api.Node)

// read answers the node of a kind whose parts stand one behind the other.
func (r *reader) read(kind int, parts ...part) api.Node {
	first := r.token()
	n := api.Node{Kind: kind, At: first.At}
	if first.Doc != "" && mayHaveDoc(kind, first.Doc) {
		n.Doc = strings.Clone(first.Doc)
	}
	for _, p := range parts {
		p(&n)
	}
	return n
}

// mayHaveDoc answers whether node.Check takes the comment of a node of that kind.
func mayHaveDoc(kind int, doc string) bool {
	switch kind {
	case api.KMessage, api.KEnum, api.KService, api.KField, api.KMap, api.KOneof, api.KValue, api.KRpc:
		return taken(api.Node{Kind: api.KMessage, Text: "A", Doc: doc})
	}
	return false
}

// taken answers whether node.Check takes a file of these nodes: what may be is asked there, so that it is said once.
func taken(kids ...api.Node) bool {
	return node.Check(api.Node{Kind: api.KFile, Kids: kids})
}

// isPlain answers whether a word is one of the plain types, the only ones that a map may have as its key.
func isPlain(word string) bool {
	if !names.Keyword(word) {
		return false
	}
	t := api.Node{Kind: api.KType, Text: word}
	keyed := api.Node{Kind: api.KMap, Text: "a", Kids: []api.Node{t, t}}
	return taken(api.Node{Kind: api.KMessage, Text: "A", Kids: []api.Node{keyed}})
}

// token answers the next one.
func (r *reader) token() api.Token {
	return r.tokens[0]
}

// take goes beyond the next token, which is never the end: nothing asks for that one.
func (r *reader) take() api.Token {
	t := r.token()
	r.tokens = r.tokens[1:]
	return t
}

// must panics at the next token unless it fits.
func (r *reader) must(fits bool) {
	if !fits {
		panic(fault{r.token().At, api.ErrSyntax})
	}
}

// word answers the next token's text if that is a name, else none.
func (r *reader) word() string {
	if r.token().Kind != api.TokName {
		return ""
	}
	return r.token().Text
}

// sees answers whether the next token is one of these words and signs.
func (r *reader) sees(texts ...string) bool {
	return isOneOf(r.token(), texts...)
}

func isOneOf(t api.Token, texts ...string) bool {
	return (t.Kind == api.TokName || t.Kind == api.TokSign) && slices.Contains(texts, t.Text)
}

// seesMap answers whether a map is next: its word alone is none.
func (r *reader) seesMap() bool {
	// A word is not the end: there is a token behind it.
	return r.sees("map") && isOneOf(r.tokens[1], "<")
}

// skip goes beyond the next token if it is one of these, and answers whether it is.
func (r *reader) skip(texts ...string) bool {
	seen := r.sees(texts...)
	if seen {
		r.take()
	}
	return seen
}

// only reads a word or a sign that must stand there.
func (r *reader) only(text string) part {
	return func(*api.Node) { r.must(r.skip(text)) }
}

// list reads one node or more, with a sign between.
func (r *reader) list(sign string, read func() api.Node) part {
	return func(n *api.Node) {
	next:
		n.Kids = append(n.Kids, read())
		if r.skip(sign) {
			goto next
		}
	}
}

// statements reads nodes up to what can't be one: a brace that closes, or the end.
func (r *reader) statements(read func() api.Node) part {
	return func(n *api.Node) {
	next:
		if r.skip(";") {
			goto next
		}
		if r.sees("}") || isEnd(r.token()) {
			return
		}
		n.Kids = append(n.Kids, read())
		goto next
	}
}

// braces reads what stands between two.
func (r *reader) braces(inner part) part {
	return func(n *api.Node) {
		r.must(r.sees("{"))
		if r.open == maxOpen {
			panic(fault{r.token().At, api.ErrDeep})
		}
		r.take()
		r.open++
		inner(n)
		r.must(r.skip("}"))
		r.open--
	}
}

// block reads statements between braces.
func (r *reader) block(read func() api.Node) part {
	return r.braces(r.statements(read))
}

// ident reads a name.
func (r *reader) ident() string {
	r.must(names.Ident(r.word()))
	return strings.Clone(r.take().Text)
}

// full reads a full name. A name that makes it too long doesn't fit, nor does a dot behind which not even the shortest name has room.
func (r *reader) full() string {
	text := r.ident()
next:
	if !r.sees(dot) {
		return text
	}
	r.must(names.Full(names.Join(text, "a")))
	r.take()
	r.must(names.Full(names.Join(text, r.word())))
	text = names.Join(text, r.ident())
	goto next
}

// ref reads a full name, perhaps with a dot ahead.
func (r *reader) ref() string {
	if r.skip(dot) {
		return dot + r.full()
	}
	return r.full()
}

// number reads a number that is not above most.
func (r *reader) number(most uint64) int64 {
	r.must(r.token().Kind == api.TokInt && r.token().N <= most)
	return int64(r.take().N)
}

func (r *reader) name(n *api.Node) {
	n.Text = r.ident()
}

// nameOrRef reads a name, or a full one in brackets.
func (r *reader) nameOrRef(open, end string) part {
	return func(n *api.Node) {
		if !r.skip(open) {
			r.name(n)
			return
		}
		n.A, n.Text = 1, r.ref()
		r.must(r.skip(end))
	}
}

// typeName reads a type's name. A plain one stands alone: a dot behind it is not read here and fits nowhere.
func (r *reader) typeName(n *api.Node) {
	word := r.word()
	if isPlain(word) {
		r.name(n)
		return
	}
	r.must(!names.Keyword(word))
	n.Text = r.ref()
}

// types reads a type as a kid.
func (r *reader) types(n *api.Node) {
	n.Kids = append(n.Kids, r.read(api.KType, r.typeName))
}

func (r *reader) key(n *api.Node) {
	r.must(isPlain(r.word()))
	r.types(n)
}

func (r *reader) extendee(n *api.Node) {
	r.must(!isPlain(r.word()))
	r.typeName(n)
}

func (r *reader) fieldNumber(n *api.Node) {
	n.N = r.number(math.MaxInt32)
}

func (r *reader) valueNumber(n *api.Node) {
	if r.skip("-") {
		n.N = -r.number(-math.MinInt32)
		return
	}
	n.N = r.number(math.MaxInt32)
}

// span reads a range's numbers.
func (r *reader) span(n *api.Node) {
	n.N = r.number(math.MaxInt32)
	n.M = n.N
	if !r.skip("to") {
		return
	}
	if r.skip("max") {
		n.M = api.MaxField
		return
	}
	n.M = r.number(math.MaxInt32)
}

// text reads a text, if node.Check takes the node with it in a file of what around answers.
func (r *reader) text(n *api.Node, around func(n api.Node) api.Node) {
	r.must(r.token().Kind == api.TokStr)
	n.Text = strings.Clone(r.token().Text)
	r.must(taken(around(*n)))
	r.take()
}

func (r *reader) path(n *api.Node) {
	r.text(n, func(n api.Node) api.Node { return n })
}

func (r *reader) textWorth(n *api.Node) {
	r.text(n, func(n api.Node) api.Node {
		return api.Node{Kind: api.KOption, Kids: []api.Node{{Kind: api.KPart, Text: "a"}, n}}
	})
}

func (r *reader) reservedWord(n *api.Node) {
	r.must(r.token().Kind == api.TokStr && names.Ident(r.token().Text))
	n.Text = strings.Clone(r.take().Text)
}

// digits reads a number as a worth, with a sign or without.
func (r *reader) digits(n *api.Node) {
	if r.skip("-") {
		n.Text = "-"
	}
	r.must(r.token().Kind == api.TokInt)
	n.Text += quote.Digits(r.token().N)
	_, _, is := node.Int(n.Text)
	r.must(is)
	r.take()
}
