package show_test

import (
	"fmt"
	"math/rand/v2"
	"slices"
	"strconv"
	"strings"
	"testing"

	"glossary/api"
	"glossary/node"
	"glossary/parse"
	"glossary/quote"
	"glossary/show"
)

const plain = "double float int32 int64 uint32 uint64 sint32 sint64 fixed32 fixed64 sfixed32 sfixed64 bool string bytes"

// grower makes trees that may be, by chance that is the same each time.
type grower struct {
	*rand.Rand
	left int // about how many nodes more
}

func (g *grower) of(words ...string) string { return words[g.IntN(len(words))] }

func (g *grower) ident() string {
	return g.of("a", "b", "Cd", "_", "x1", "foo_bar", "true", "message", "option", "to", "max", "int32", "stream", "syntax", strings.Repeat("n", 1+g.IntN(200)))
}

func (g *grower) full() string {
	s := g.ident()
	for g.IntN(3) == 0 && len(s) < 700 {
		s += "." + g.ident()
	}
	return s
}

func (g *grower) named() string { return g.of(".", "A.", "b.c.") + g.full() }

func (g *grower) typ() api.Node {
	return typ(g.of(g.of(strings.Fields(plain)...), g.of("A", "b", "Cd"), g.named()))
}

func (g *grower) number() int64 {
	return []int64{0, 1, 2, 15, 1000, 1<<29 - 1, 1 << 29, 1<<31 - 1, g.Int64N(1 << 31)}[g.IntN(9)]
}

// some answers up to most nodes, fewer where there are many already.
func (g *grower) some(most int, grow func() api.Node) []api.Node {
	var l []api.Node
	for range g.IntN(most + 1) {
		if g.left <= 0 {
			break
		}
		g.left--
		l = append(l, grow())
	}
	return l
}

// more answers one node or more.
func (g *grower) more(grow func() api.Node) []api.Node { return append(g.some(2, grow), grow()) }

func (g *grower) span() api.Node {
	n := span(g.number(), g.number())
	if g.IntN(2) == 0 {
		n.M = n.N
	}
	return n
}

func (g *grower) option() api.Node { return option(append(g.more(g.part), g.worth())...) }

func (g *grower) part() api.Node {
	if g.IntN(2) == 0 {
		return with(1, bare(g.of("", ".")+g.full()))
	}
	return bare(g.ident())
}

func (g *grower) worth() api.Node {
	g.left--
	switch g.IntN(5) {
	case 0:
		return mk(api.KIdent, g.ident())
	case 1:
		return mk(api.KString, g.of("", "a b", "\x00\xff\n'\"\\", "{", "//", strings.Repeat("x", g.IntN(300))))
	case 2:
		return aggr(g.some(3, g.entry)...)
	}
	return number(g.of("0", "1", "-1", "18446744073709551615", "-9223372036854775808", strconv.FormatInt(int64(g.Uint64()), 10)))
}

func (g *grower) entry() api.Node {
	n := g.part()
	n.Kind, n.Kids = api.KEntry, []api.Node{g.worth()}
	return n
}

func (g *grower) options() []api.Node { return g.some(2, g.option) }

func (g *grower) field() api.Node {
	return g.said(field(g.ident(), g.number(), append([]api.Node{g.typ()}, g.options()...)...))
}

func (g *grower) labelled() api.Node { return with(g.IntN(4), g.field()) }

func (g *grower) mapped() api.Node {
	key := typ(g.of(strings.Fields(plain)...))
	return g.said(numbered(mk(api.KMap, g.ident(), append([]api.Node{key, g.typ()}, g.options()...)...), g.number()))
}

func (g *grower) value() api.Node {
	n := numbered(mk(api.KValue, g.of("a", "enum", "OPTION", g.ident()+"_"), g.options()...), g.number())
	if g.IntN(2) == 0 {
		n.N = -n.N - int64(g.IntN(2))
	}
	return g.said(n)
}

func (g *grower) rpc() api.Node {
	return g.said(with(g.IntN(4), mk(api.KRpc, g.ident(), append([]api.Node{g.typ(), g.typ()}, g.options()...)...)))
}

// said puts a comment ahead of a statement, perhaps.
func (g *grower) said(n api.Node) api.Node {
	if g.IntN(3) == 0 {
		n.Doc = g.of("\n", " a\n", " a\n\n  b\n", "\xff/*\n", "//\r\n", strings.Repeat("//\n", g.IntN(20)))
	}
	return n
}

func (g *grower) block(kind int, text string, most int, kids ...func() api.Node) api.Node {
	l := g.some(most, func() api.Node { return kids[g.IntN(len(kids))]() })
	return mk(kind, text, l...)
}

func (g *grower) enum() api.Node {
	return g.said(g.block(api.KEnum, g.ident(), 4, g.value, g.value, g.option))
}

func (g *grower) extend() api.Node { return g.block(api.KExtend, g.named(), 3, g.labelled) }

func (g *grower) oneof() api.Node {
	return g.said(g.block(api.KOneof, g.ident(), 4, g.option, g.field, g.field))
}

func (g *grower) service() api.Node {
	return g.said(g.block(api.KService, g.ident(), 4, g.option, g.rpc, g.rpc))
}

func (g *grower) message(deep int) api.Node {
	word := func() api.Node { return mk(api.KWord, g.ident()) }
	kids := []func() api.Node{
		g.labelled, g.labelled, g.mapped, g.enum, g.extend, g.oneof, g.option,
		func() api.Node { return mk(api.KExtensions, "", g.more(g.span)...) },
		func() api.Node { return mk(api.KReserved, "", g.more(g.span)...) },
		func() api.Node { return mk(api.KReserved, "", g.more(word)...) },
	}
	if deep > 0 {
		kids = append(kids, func() api.Node { return g.message(deep - 1) }, func() api.Node { return g.message(deep - 1) })
	}
	return g.said(g.block(api.KMessage, g.ident(), 6, kids...))
}

func (g *grower) file() api.Node {
	imported := func() api.Node {
		return with(g.IntN(2), mk(api.KImport, g.of("", "a/b.proto", "\xff", strings.Repeat("p", g.IntN(1001)))))
	}
	whole := func() api.Node { return g.message(5) }
	n := g.block(api.KFile, g.of("", "proto2", "proto3"), 8, imported, whole, whole, g.enum, g.extend, g.option, g.service)
	if g.IntN(2) == 0 {
		n.Kids = slices.Insert(n.Kids, g.IntN(len(n.Kids)+1), mk(api.KPackage, g.full()))
	}
	return n
}

// sample answers a tree by chance.
func sample(seed uint64, size int) api.Node {
	g := &grower{rand.New(rand.NewPCG(seed, 9)), size}
	return g.file()
}

// lines answers the lines of a statement, by the chapter's forms.
func lines(n api.Node) []string {
	var l []string
	for _, remark := range strings.SplitAfter(n.Doc, "\n") {
		if remark != "" {
			l = append(l, "//"+strings.TrimSuffix(remark, "\n"))
		}
	}
	word := map[int]string{api.KMessage: "message", api.KEnum: "enum", api.KExtend: "extend", api.KService: "service", api.KOneof: "oneof"}[n.Kind]
	switch n.Kind {
	case api.KImport:
		return append(l, fmt.Sprintf("import %s%s;", []string{"", "public "}[n.A], quote.Text([]byte(n.Text))))
	case api.KPackage:
		return append(l, fmt.Sprintf("package %s;", n.Text))
	case api.KOption:
		return append(l, fmt.Sprintf("option %s;", opt(n)))
	case api.KField:
		return append(l, fmt.Sprintf("%s%s %s = %d%s;", []string{"", "optional ", "required ", "repeated "}[n.A], n.Kids[0].Text, n.Text, n.N, opts(n.Kids[1:])))
	case api.KMap:
		return append(l, fmt.Sprintf("map<%s, %s> %s = %d%s;", n.Kids[0].Text, n.Kids[1].Text, n.Text, n.N, opts(n.Kids[2:])))
	case api.KValue:
		return append(l, fmt.Sprintf("%s = %d%s;", n.Text, n.N, opts(n.Kids)))
	case api.KExtensions, api.KReserved:
		return append(l, fmt.Sprintf("%s %s;", map[int]string{api.KExtensions: "extensions", api.KReserved: "reserved"}[n.Kind], listed(n.Kids)))
	case api.KRpc:
		in, out := []string{"", "stream "}[n.A%2], []string{"", "stream "}[n.A/2]
		head := fmt.Sprintf("rpc %s(%s%s) returns (%s%s)", n.Text, in, n.Kids[0].Text, out, n.Kids[1].Text)
		if len(n.Kids) == 2 {
			return append(l, head+";")
		}
		return block(l, head, n.Kids[2:])
	}
	return block(l, word+" "+n.Text, n.Kids)
}

// block answers l, and behind it what stands in braces.
func block(l []string, head string, kids []api.Node) []string {
	l = append(l, head+" {")
	for _, kid := range kids {
		for _, line := range lines(kid) {
			l = append(l, "  "+line)
		}
	}
	return append(l, "}")
}

func listed(l []api.Node) string {
	var texts []string
	for _, n := range l {
		switch {
		case n.Kind == api.KWord:
			texts = append(texts, `"`+n.Text+`"`)
		case n.N == n.M:
			texts = append(texts, fmt.Sprint(n.N))
		case n.M == 536870911:
			texts = append(texts, fmt.Sprint(n.N, " to max"))
		default:
			texts = append(texts, fmt.Sprint(n.N, " to ", n.M))
		}
	}
	return strings.Join(texts, ", ")
}

func opts(l []api.Node) string {
	if len(l) == 0 {
		return ""
	}
	var texts []string
	for _, n := range l {
		texts = append(texts, opt(n))
	}
	return " [" + strings.Join(texts, ", ") + "]"
}

func opt(n api.Node) string {
	last := len(n.Kids) - 1
	var parts []string
	for _, part := range n.Kids[:last] {
		parts = append(parts, fmt.Sprintf([]string{"%s", "(%s)"}[part.A], part.Text))
	}
	return strings.Join(parts, ".") + " = " + worth(n.Kids[last])
}

func worth(n api.Node) string {
	if n.Kind == api.KString {
		return quote.Text([]byte(n.Text))
	}
	if n.Kind != api.KAggr {
		return n.Text
	}
	var texts []string
	for _, e := range n.Kids {
		name := fmt.Sprintf([]string{"%s", "[%s]"}[e.A], e.Text)
		if e.Kids[0].Kind != api.KAggr {
			name += ":"
		}
		texts = append(texts, name+" "+worth(e.Kids[0]))
	}
	return "{" + strings.Join(texts, " ") + "}"
}

// wanted answers the source of a tree, by the chapter's forms.
func wanted(n api.Node) string {
	var l []string
	if n.Text != "" {
		l = append(l, `syntax = "`+n.Text+`";`)
	}
	for _, kid := range n.Kids {
		l = append(l, lines(kid)...)
	}
	s := ""
	for _, line := range l {
		s += line + "\n"
	}
	return s
}

// braces answers how many are open at most.
func braces(n api.Node) int {
	most := 0
	for _, kid := range n.Kids {
		most = max(most, braces(kid))
	}
	switch n.Kind {
	case api.KMessage, api.KEnum, api.KExtend, api.KService, api.KOneof, api.KAggr:
		return most + 1
	case api.KRpc:
		return most + min(1, len(n.Kids)-2)
	}
	return most
}

// holdTree holds all promises of a tree.
func holdTree(t *testing.T, n api.Node) {
	t.Helper()
	s, err := show.File(n)
	if !node.Check(n) {
		if err != api.ErrShow || s != "" {
			t.Errorf("%v: %d, %q", n, err, s)
		}
		return
	}
	if want := wanted(n); err != api.OK || s != want {
		t.Errorf("%v: %d\n%s\nnot\n%s", n, err, s, want)
	}
	if len(s) <= api.MaxSource && braces(n) <= 30 {
		holdBack(t, n, s)
	}
}

// P9.1, P9.2, P9.3: all kinds of trees.
func TestTrees(t *testing.T) {
	kinds := map[int]int{}
	for seed := range uint64(3000) {
		n := sample(seed, 1+int(seed%150))
		if !node.Check(n) {
			t.Fatalf("the sample %d is none: %v", seed, n)
		}
		holdTree(t, n)
		var walk func(n api.Node)
		walk = func(n api.Node) {
			kinds[n.Kind]++
			if n.Kind == api.KOption {
				if got, err := show.Option(n); err != api.OK || got != opt(n) {
					t.Errorf("%v: %d, %q, want %q", n, err, got, opt(n))
				}
			}
			for _, kid := range n.Kids {
				walk(kid)
			}
		}
		walk(n)
	}
	for kind := api.KFile; kind <= api.KEntry; kind++ {
		if kinds[kind] < 100 {
			t.Errorf("%d nodes of the kind %d", kinds[kind], kind)
		}
	}
}

// P9.1, P9.2: trees of which one node was made odd: refused just where node.Check refuses them.
func TestTwisted(t *testing.T) {
	right, wrong := 0, 0
	for seed := range uint64(3000) {
		n := sample(seed, 1+int(seed%40))
		g := &grower{rand.New(rand.NewPCG(seed, 10)), 10}
		var all []*api.Node
		var walk func(n *api.Node)
		walk = func(n *api.Node) {
			all = append(all, n)
			for i := range n.Kids {
				walk(&n.Kids[i])
			}
		}
		walk(&n)
		g.twist(all[g.IntN(len(all))])
		holdTree(t, n)
		if node.Check(n) {
			right++
		} else {
			wrong++
		}
		for _, part := range all {
			got, err := show.Option(*part)
			is := part.Kind == api.KOption && node.Check(file(*part))
			if is && (err != api.OK || got != opt(*part)) || !is && (err != api.ErrShow || got != "") {
				t.Fatalf("%v: %d, %q", *part, err, got)
			}
		}
	}
	if right < 300 || wrong < 1000 {
		t.Errorf("%d are right, %d wrong", right, wrong)
	}
}

// twist makes a node odd, most often.
func (g *grower) twist(n *api.Node) {
	switch g.IntN(8) {
	case 0:
		n.Kind = g.IntN(27) - 1
	case 1:
		n.Text = g.of("", ".", "a.b", "1", "option", "int32", "proto3", "a", "-5", "\xff")
	case 2:
		n.A = g.IntN(6) - 1
	case 3:
		n.N = []int64{-1, 0, 1, 1 << 31, -1 << 63}[g.IntN(5)]
	case 4:
		n.M = []int64{-1, 0, 1, 1 << 31, -1 << 63}[g.IntN(5)]
	case 5:
		n.Doc = g.of("", "\n", "a", " a\n")
	case 6:
		if len(n.Kids) > 0 {
			n.Kids = slices.Delete(slices.Clone(n.Kids), 0, 1)
		}
	case 7:
		n.Kids = append(slices.Clone(n.Kids), []api.Node{g.option(), g.labelled(), g.typ(), g.worth(), g.span(), g.part()}[g.IntN(6)])
	}
}

// FuzzFile tries what any source comes to.
func FuzzFile(f *testing.F) {
	for seed := range uint64(20) {
		f.Add(wanted(sample(seed, 30)))
	}
	f.Add("// a\n\n// b\nmessage A { ; oneof o {;} /* c */ } enum E { A = -0x10; } service S { rpc R(A) returns (B) {;} }")
	f.Add("option a = {[.a.b]: -1; c: {}, d: 'x'}; message A { reserved 1 to 1, 2 to 536870911; }")
	f.Fuzz(func(t *testing.T, s string) {
		n, _, err := parse.File(s)
		if err != api.OK {
			return
		}
		holdTree(t, n)
	})
}

// FuzzSeed tries trees by any chance, one of whose nodes is odd.
func FuzzSeed(f *testing.F) {
	f.Add(uint64(1), uint16(100), false)
	f.Fuzz(func(t *testing.T, seed uint64, size uint16, odd bool) {
		n := sample(seed, int(size%2000))
		if odd {
			g := &grower{rand.New(rand.NewPCG(seed, 11)), 10}
			at := &n
			for len(at.Kids) > 0 && g.IntN(4) > 0 {
				at = &at.Kids[g.IntN(len(at.Kids))]
			}
			g.twist(at)
		}
		holdTree(t, n)
	})
}
