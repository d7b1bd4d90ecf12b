package parse_test

import (
	"fmt"
	"math/rand/v2"
	"reflect"
	"slices"
	"strconv"
	"strings"
	"testing"

	"glossary/api"
	"glossary/lex"
	"glossary/node"
	"glossary/parse"
)

// grower makes trees that may be, by chance that is the same each time.
type grower struct {
	*rand.Rand
	left int // about how many nodes more
}

func (g *grower) of(words ...string) string { return words[g.IntN(len(words))] }

func (g *grower) ident() string {
	return g.of("a", "b", "Cd", "_", "x1", "foo_bar", "true", "group", "message", "option", "to", "max", "int32", "stream", "syntax", strings.Repeat("n", 1+g.IntN(200)))
}

func (g *grower) full() string {
	s := g.ident()
	for g.IntN(3) == 0 && len(s) < 700 {
		s += "." + g.ident()
	}
	return s
}

func (g *grower) ref() string { return g.of("", ".") + g.full() }

// named answers a type's name that is no plain one.
func (g *grower) named() string { return g.of(".", "A.", "b.c.") + g.full() }

func (g *grower) typ() api.Node {
	return api.Node{Kind: api.KType, Text: g.of(g.of(strings.Fields(plain)...), g.of("A", "b", "Cd"), g.named())}
}

func (g *grower) number() int64 {
	return []int64{0, 1, 2, 15, 1000, 1<<29 - 1, 1 << 29, 1<<31 - 1, g.Int64N(1 << 31)}[g.IntN(9)]
}

// some answers up to most nodes, fewer where there are many already.
func (g *grower) some(most int, grow func() api.Node) []api.Node {
	var l []api.Node
	for range g.IntN(most + 1) {
		if g.left <= 0 {
			break
		}
		g.left--
		l = append(l, grow())
	}
	return l
}

func (g *grower) spans() []api.Node {
	return append(g.some(3, g.span), g.span())
}

func (g *grower) span() api.Node {
	n := api.Node{Kind: api.KRange, N: g.number(), M: g.number()}
	if g.IntN(2) == 0 {
		n.M = n.N
	}
	return n
}

func (g *grower) option() api.Node {
	parts := append(g.some(2, g.part), g.part())
	return api.Node{Kind: api.KOption, Kids: append(parts, g.worth())}
}

func (g *grower) part() api.Node {
	if g.IntN(2) == 0 {
		return api.Node{Kind: api.KPart, Text: g.ref(), A: 1}
	}
	return api.Node{Kind: api.KPart, Text: g.ident()}
}

func (g *grower) worth() api.Node {
	g.left--
	switch g.IntN(5) {
	case 0:
		return api.Node{Kind: api.KIdent, Text: g.ident()}
	case 1:
		return api.Node{Kind: api.KString, Text: g.of("", "a b", "\x00\xff\n'\"\\", "{", "proto2", strings.Repeat("x", g.IntN(300)))}
	case 2:
		return api.Node{Kind: api.KAggr, Kids: g.some(3, g.entry)}
	}
	return api.Node{Kind: api.KInt, Text: g.of("0", "1", "-1", "16", "18446744073709551615", "-9223372036854775808", strconv.FormatInt(int64(g.Uint64()), 10))}
}

func (g *grower) entry() api.Node {
	n := g.part()
	n.Kind, n.Kids = api.KEntry, []api.Node{g.worth()}
	return n
}

func (g *grower) options() []api.Node { return g.some(2, g.option) }

func (g *grower) field(label int) api.Node {
	return api.Node{Kind: api.KField, Text: g.ident(), N: g.number(), A: label, Kids: append([]api.Node{g.typ()}, g.options()...)}
}

func (g *grower) labelled() api.Node { return g.field(g.IntN(4)) }

func (g *grower) value() api.Node {
	n := api.Node{Kind: api.KValue, Text: g.of("a", "enum", "map", "OPTION", g.ident()+"_"), N: g.number(), Kids: g.options()}
	if g.IntN(2) == 0 {
		n.N = -n.N - int64(g.IntN(2))
	}
	return n
}

func (g *grower) rpc() api.Node {
	return api.Node{Kind: api.KRpc, Text: g.ident(), A: g.IntN(4), Kids: append([]api.Node{g.typ(), g.typ()}, g.options()...)}
}

func (g *grower) message(deep int) api.Node {
	return api.Node{Kind: api.KMessage, Text: g.ident(), Kids: g.some(6, func() api.Node { return g.inMessage(deep) })}
}

func (g *grower) inMessage(deep int) api.Node {
	kind := []int{api.KField, api.KField, api.KMap, api.KMessage, api.KEnum, api.KExtend, api.KExtensions, api.KReserved, api.KOneof, api.KOption}[g.IntN(10)]
	switch {
	case kind == api.KMap:
		key := api.Node{Kind: api.KType, Text: g.of(strings.Fields(plain)...)}
		return api.Node{Kind: api.KMap, Text: g.ident(), N: g.number(), Kids: append([]api.Node{key, g.typ()}, g.options()...)}
	case kind == api.KExtensions || kind == api.KReserved && g.IntN(2) == 0:
		return api.Node{Kind: kind, Kids: g.spans()}
	case kind == api.KReserved:
		word := func() api.Node { return api.Node{Kind: api.KWord, Text: g.ident()} }
		return api.Node{Kind: kind, Kids: append(g.some(3, word), word())}
	case kind == api.KOneof:
		return api.Node{Kind: kind, Text: g.ident(), Kids: slices.Concat(g.options(), g.some(3, func() api.Node { return g.field(0) }), g.options())}
	case kind == api.KField:
		return g.labelled()
	}
	return g.anywhere(kind, deep)
}

// anywhere answers a node that a file may have as well as a message.
func (g *grower) anywhere(kind, deep int) api.Node {
	switch {
	case kind == api.KMessage && deep > 0:
		return g.message(deep - 1)
	case kind == api.KEnum:
		return api.Node{Kind: kind, Text: g.ident(), Kids: slices.Concat(g.some(3, g.value), g.options())}
	case kind == api.KExtend:
		return api.Node{Kind: kind, Text: g.named(), Kids: g.some(3, g.labelled)}
	}
	return g.option()
}

func (g *grower) file() api.Node {
	n := api.Node{Kind: api.KFile, Text: g.of("", "proto2", "proto3")}
	n.Kids = g.some(8, func() api.Node {
		switch kind := []int{api.KImport, api.KService, api.KMessage, api.KMessage, api.KEnum, api.KExtend, api.KOption}[g.IntN(7)]; kind {
		case api.KImport:
			return api.Node{Kind: kind, Text: g.of("", "a/b.proto", "\xff", strings.Repeat("p", g.IntN(1001))), A: g.IntN(2)}
		case api.KService:
			return api.Node{Kind: kind, Text: g.ident(), Kids: slices.Concat(g.options(), g.some(3, g.rpc))}
		default:
			return g.anywhere(kind, 4)
		}
	})
	if g.IntN(2) == 0 {
		n.Kids = slices.Insert(n.Kids, g.IntN(len(n.Kids)+1), api.Node{Kind: api.KPackage, Text: g.full()})
	}
	return n
}

// writer writes a tree as a source, with gaps by chance, and lays down where its nodes stand, and the comments ahead of them.
type writer struct {
	*grower
	text  []byte
	begun []*api.Node // what begins with the next token
}

func hasDoc(kind int) bool {
	return slices.Contains([]int{api.KMessage, api.KEnum, api.KService, api.KField, api.KMap, api.KOneof, api.KValue, api.KRpc}, kind)
}

// gap writes what stands between tokens, and answers the comment of the one behind it.
func (w *writer) gap() string {
	switch w.IntN(8) {
	case 0:
		w.text = append(w.text, "\n\t"...)
	case 1:
		w.text = append(w.text, " // no comment of a token\n\n\t"...)
	case 2:
		w.text = append(w.text, "/* one\n// two */"...)
	case 3:
		doc := w.of(" a\n", "\n", " a\n b\n", "\xff/*\n")
		w.text = append(w.text, "\n"+lex.Doc(doc)+w.of("", "  ")...)
		return doc
	default:
		w.text = append(w.text, ' ')
	}
	return ""
}

// put writes tokens.
func (w *writer) put(tokens ...string) {
	for _, token := range tokens {
		doc := ""
		// Of signs one needs no gap to stand apart.
		if len(w.text) > 0 && (w.IntN(3) > 0 || !strings.ContainsAny(token[:1], ";,.={}[]()<>:-")) {
			doc = w.gap()
		}
		for _, n := range w.begun {
			n.At = len(w.text)
			if hasDoc(n.Kind) {
				n.Doc = doc
			}
		}
		w.begun = nil
		w.text = append(w.text, token...)
	}
}

func (w *writer) begin(n *api.Node) { w.begun = append(w.begun, n) }

// name writes a full name, perhaps with a dot ahead.
func (w *writer) name(s string) {
	if rest, is := strings.CutPrefix(s, "."); is {
		w.put(".")
		s = rest
	}
	for i, name := range strings.Split(s, ".") {
		if i > 0 {
			w.put(".")
		}
		w.put(name)
	}
}

// number writes one to some base.
func (w *writer) number(n uint64) {
	w.put(fmt.Sprintf(w.of("%d", "%d", "0x%x", "0X%X", "0%o"), n))
}

func (w *writer) quoted(s string) {
	quote, text := w.of("'", `"`), ""
	for i := range len(s) {
		if c := s[i]; c >= 'a' && c <= 'z' || c == '/' || c == ' ' {
			text += string(c)
		} else {
			text += fmt.Sprintf(w.of(`\x%02x`, `\%03o`), c)
		}
	}
	w.put(quote + text + quote)
}

// between writes the nodes with a sign between.
func (w *writer) between(sign string, l []api.Node, write func(n *api.Node)) {
	for i := range l {
		if i > 0 {
			w.put(sign)
		}
		write(&l[i])
	}
}

func (w *writer) empty() {
	for w.IntN(5) == 0 {
		w.put(";")
	}
}

func (w *writer) block(l []api.Node) {
	w.put("{")
	w.statements(l)
	w.put("}")
}

func (w *writer) statements(l []api.Node) {
	for i := range l {
		w.empty()
		w.statement(&l[i])
	}
	w.empty()
}

func (w *writer) statement(n *api.Node) {
	if n.Kind == api.KOption {
		w.put("option")
		w.opt(n)
		w.put(";")
		return
	}
	w.begin(n)
	switch n.Kind {
	case api.KImport:
		w.put([]string{"import", "public"}[:1+n.A]...)
		w.quoted(n.Text)
		w.put(";")
	case api.KPackage:
		w.put("package")
		w.name(n.Text)
		w.put(";")
	case api.KMessage, api.KEnum, api.KService, api.KOneof:
		w.put(map[int]string{api.KMessage: "message", api.KEnum: "enum", api.KService: "service", api.KOneof: "oneof"}[n.Kind], n.Text)
		w.block(n.Kids)
	case api.KExtend:
		w.put("extend")
		w.name(n.Text)
		w.block(n.Kids)
	case api.KExtensions:
		w.put("extensions")
		w.between(",", n.Kids, w.span)
		w.put(";")
	case api.KReserved:
		w.put("reserved")
		w.between(",", n.Kids, w.reserved)
		w.put(";")
	case api.KRpc:
		w.rpc(n)
	default:
		w.numbered(n)
	}
}

// numbered writes a field, a map or a value.
func (w *writer) numbered(n *api.Node) {
	options := n.Kids
	switch n.Kind {
	case api.KField:
		if n.A > 0 {
			w.put([]string{"", "optional", "required", "repeated"}[n.A])
		}
		w.typ(&n.Kids[0])
		options = n.Kids[1:]
	case api.KMap:
		w.put("map", "<")
		w.between(",", n.Kids[:2], w.typ)
		w.put(">")
		options = n.Kids[2:]
	}
	w.put(n.Text, "=")
	number := uint64(n.N)
	if n.N < 0 {
		w.put("-")
		number = -number
	}
	w.number(number)
	if len(options) > 0 {
		w.put("[")
		w.between(",", options, w.opt)
		w.put("]")
	}
	w.put(";")
}

func (w *writer) rpc(n *api.Node) {
	w.put("rpc", n.Text, "(")
	for i := range 2 {
		if i > 0 {
			w.put("returns", "(")
		}
		if n.A>>i&1 > 0 {
			w.put("stream")
		}
		w.typ(&n.Kids[i])
		w.put(")")
	}
	if len(n.Kids) == 2 && w.IntN(2) == 0 {
		w.put(";")
		return
	}
	w.block(n.Kids[2:])
}

func (w *writer) typ(n *api.Node) {
	w.begin(n)
	w.name(n.Text)
}

func (w *writer) span(n *api.Node) {
	w.begin(n)
	w.number(uint64(n.N))
	if n.M == n.N && w.IntN(2) == 0 {
		return
	}
	w.put("to")
	if n.M == 1<<29-1 && w.IntN(2) == 0 {
		w.put("max")
		return
	}
	w.number(uint64(n.M))
}

func (w *writer) reserved(n *api.Node) {
	if n.Kind == api.KRange {
		w.span(n)
		return
	}
	w.begin(n)
	w.quoted(n.Text)
}

func (w *writer) opt(n *api.Node) {
	last := len(n.Kids) - 1
	w.begin(n)
	w.between(".", n.Kids[:last], func(n *api.Node) { w.bracketed(n, "(", ")") })
	w.put("=")
	w.worth(&n.Kids[last])
}

func (w *writer) bracketed(n *api.Node, open, end string) {
	w.begin(n)
	if n.A == 0 {
		w.put(n.Text)
		return
	}
	w.put(open)
	w.name(n.Text)
	w.put(end)
}

func (w *writer) worth(n *api.Node) {
	w.begin(n)
	switch n.Kind {
	case api.KIdent:
		w.put(n.Text)
	case api.KString:
		w.quoted(n.Text)
	case api.KInt:
		digits, minus := strings.CutPrefix(n.Text, "-")
		if minus {
			w.put("-")
		}
		number, _ := strconv.ParseUint(digits, 10, 64)
		w.number(number)
	case api.KAggr:
		w.put("{")
		for i := range n.Kids {
			entry := &n.Kids[i]
			w.bracketed(entry, "[", "]")
			if entry.Kids[0].Kind != api.KAggr || w.IntN(2) == 0 {
				w.put(":")
			}
			w.worth(&entry.Kids[0])
			if sign := w.of("", ",", ";"); sign != "" {
				w.put(sign)
			}
		}
		w.put("}")
	}
}

func (w *writer) file(n *api.Node) string {
	w.begin(n)
	if n.Text != "" {
		w.put("syntax", "=")
		w.quoted(n.Text)
		w.put(";")
	}
	w.statements(n.Kids)
	for _, n := range w.begun {
		n.At = len(w.text) // a file of nothing begins with its end
	}
	return string(w.text)
}

// sample answers a tree by chance and a source of it.
func sample(seed uint64, size int) (api.Node, string) {
	g := &grower{rand.New(rand.NewPCG(seed, 8)), size}
	n := g.file()
	w := &writer{grower: g}
	if g.IntN(4) == 0 {
		w.text = []byte(" \n")
	}
	return n, w.file(&n)
}

// leveled answers n with nil for each empty list.
func leveled(n api.Node) api.Node {
	if len(n.Kids) == 0 {
		n.Kids = nil
	}
	n.Kids = slices.Clone(n.Kids)
	for i, kid := range n.Kids {
		n.Kids[i] = leveled(kid)
	}
	return n
}

// P8.1, P8.2, P8.3: sources of all kinds of trees come to these, with all places and comments.
func TestTrees(t *testing.T) {
	kinds := map[int]int{}
	for seed := range uint64(3000) {
		want, s := sample(seed, 1+int(seed%150))
		if !node.Check(want) || len(s) > api.MaxSource {
			t.Fatalf("the sample %d is none: %q", seed, s)
		}
		got, at, err := parse.File(s)
		if err != api.OK || at != 0 || !node.Check(got) {
			t.Fatalf("%q: %d at %d", s, err, at)
		}
		if !reflect.DeepEqual(leveled(got), leveled(want)) {
			t.Fatalf("%q\nis  %v\nnot %v", s, got, want)
		}
		var walk func(n api.Node)
		walk = func(n api.Node) {
			kinds[n.Kind]++
			for _, kid := range n.Kids {
				walk(kid)
			}
		}
		walk(got)
	}
	for kind := api.KFile; kind <= api.KEntry; kind++ {
		if kinds[kind] < 100 {
			t.Errorf("%d nodes of the kind %d", kinds[kind], kind)
		}
	}
}

// P8.2: sources with tokens that were taken out, put in, put elsewhere.
func TestTwisted(t *testing.T) {
	words := vocabulary()
	right, wrong := 0, 0
	for seed := range uint64(1500) {
		_, s := sample(seed, 1+int(seed%40))
		tokens, _, _ := lex.Scan(s)
		g := rand.New(rand.NewPCG(seed, 9))
		for range 6 {
			l := slices.Clone(tokens)
			for range 1 + g.IntN(2) {
				l = twisted(g, l, words)
			}
			if _, err := holdTokens(t, s, l); err == api.OK {
				right++
			} else {
				wrong++
			}
		}
	}
	if right < 500 || wrong < 3000 {
		t.Errorf("%d are right, %d wrong", right, wrong)
	}
}

func twisted(g *rand.Rand, l []api.Token, words []string) []api.Token {
	i, k := g.IntN(len(l)), g.IntN(len(l))
	more, _, _ := lex.Scan(words[g.IntN(len(words))])
	last := len(l) - 1
	switch {
	case g.IntN(4) == 0 && i < last:
		return slices.Delete(l, i, i+1)
	case g.IntN(3) == 0 && i < last && k < last:
		l[i], l[k] = l[k], l[i]
		return l
	case g.IntN(2) == 0 && i < last:
		l[i] = more[0]
		return l
	case k < last:
		return slices.Insert(l, i, l[k])
	}
	return slices.Insert(l, i, more[0])
}

func FuzzFile(f *testing.F) {
	for seed := range uint64(20) {
		_, s := sample(seed, 30)
		f.Add(s)
	}
	for _, s := range []string{"", "message A { optional int32 b = 1; }", "enum E { option = 1; }", "option a = {[.a.b]: -1; c {}}"} {
		f.Add(s)
	}
	f.Fuzz(func(t *testing.T, s string) {
		if _, err := holdSource(t, s); err != api.OK {
			return
		}
		n, _, err := parse.File(s)
		if err != api.OK {
			return
		}
		again := leveled(n)
		w := &writer{grower: &grower{rand.New(rand.NewPCG(uint64(len(s)), 1)), 0}}
		text := w.file(&again)
		if back, at, err := parse.File(text); len(text) <= api.MaxSource && (err != api.OK || !reflect.DeepEqual(leveled(back), again)) {
			t.Errorf("%q written as %q: %d at %d", s, text, err, at)
		}
	})
}

// FuzzSeed tries trees by any chance.
func FuzzSeed(f *testing.F) {
	f.Add(uint64(1), uint16(100))
	f.Fuzz(func(t *testing.T, seed uint64, size uint16) {
		want, s := sample(seed, int(size%2000))
		got, at, err := parse.File(s)
		if len(s) > api.MaxSource || node.Count(want) > api.MaxNodes {
			return
		}
		if err != api.OK || !reflect.DeepEqual(leveled(got), leveled(want)) {
			t.Errorf("%q: %d at %d", s, err, at)
		}
		holdSource(t, s)
	})
}
