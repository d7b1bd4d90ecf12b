package show_test

import (
	"fmt"
	"math"
	"reflect"
	"slices"
	"strings"
	"testing"
	"unsafe"

	"glossary/api"
	"glossary/lex"
	"glossary/node"
	"glossary/parse"
	"glossary/quote"
	"glossary/show"
)

func mk(kind int, text string, kids ...api.Node) api.Node {
	return api.Node{Kind: kind, Text: text, Kids: kids}
}

func file(kids ...api.Node) api.Node { return mk(api.KFile, "", kids...) }

func typ(s string) api.Node { return mk(api.KType, s) }

func number(s string) api.Node { return mk(api.KInt, s) }

func bare(name string) api.Node { return mk(api.KPart, name) }

func option(kids ...api.Node) api.Node { return mk(api.KOption, "", kids...) }

func asks(name, digits string) api.Node { return option(bare(name), number(digits)) }

func aggr(entries ...api.Node) api.Node { return mk(api.KAggr, "", entries...) }

func entry(name string, worth api.Node) api.Node { return mk(api.KEntry, name, worth) }

func message(name string, kids ...api.Node) api.Node { return mk(api.KMessage, name, kids...) }

func span(from, to int64) api.Node { return api.Node{Kind: api.KRange, N: from, M: to} }

func numbered(n api.Node, number int64) api.Node {
	n.N = number
	return n
}

func field(name string, number int64, kids ...api.Node) api.Node {
	return numbered(mk(api.KField, name, kids...), number)
}

// with answers n with another A.
func with(a int, n api.Node) api.Node {
	n.A = a
	return n
}

// said answers n with a comment ahead.
func said(doc string, n api.Node) api.Node {
	n.Doc = doc
	return n
}

// holdFile holds what File answers against lines, and what comes back from them against the tree.
func holdFile(t *testing.T, n api.Node, lines ...string) {
	t.Helper()
	want := ""
	for _, line := range lines {
		want += line + "\n"
	}
	got, err := show.File(n)
	if err != api.OK || got != want {
		t.Errorf("File: %d, %q, want %q", err, got, want)
		return
	}
	holdBack(t, n, got)
}

// holdBack holds P9.3 of a tree and its source.
func holdBack(t *testing.T, n api.Node, s string) {
	t.Helper()
	back, at, err := parse.File(s)
	if err != api.OK || !node.Same(back, n) {
		t.Errorf("back from %q: %d at %d, %v, not %v", s, err, at, back, n)
	}
}

func holdOption(t *testing.T, n api.Node, want string) {
	t.Helper()
	if got, err := show.Option(n); err != api.OK || got != want {
		t.Errorf("Option: %d, %q, want %q", err, got, want)
	}
	holdFile(t, file(n), "option "+want+";")
	holdFile(t, file(message("A", field("b", 1, typ("A"), n))), "message A {", "  A b = 1 ["+want+"];", "}")
}

// P9.1: the chapter's example.
func TestExample(t *testing.T) {
	holdFile(t, file(message("A", with(1, field("b", 1, typ("int32"))))), "message A {", "  optional int32 b = 1;", "}")
}

// P9.1: what stands in a file.
func TestFile(t *testing.T) {
	holdFile(t, file())
	holdFile(t, mk(api.KFile, "proto2"), `syntax = "proto2";`)
	holdFile(t, mk(api.KFile, "proto3", mk(api.KPackage, "a")), `syntax = "proto3";`, "package a;")
	holdFile(t, file(mk(api.KPackage, "a.b.message")), "package a.b.message;")
	holdFile(t, file(mk(api.KImport, "x")), `import "x";`)
	holdFile(t, file(with(1, mk(api.KImport, "x"))), `import public "x";`)
	holdFile(t, file(mk(api.KImport, "")), `import "";`)
	holdFile(t, file(mk(api.KImport, "a\"\\\n'\x00\u20ac")), `import "a\"\\\n'\000\342\202\254";`)
	holdFile(t, file(with(1, mk(api.KImport, strings.Repeat("\xff", 1000)))), `import public "`+strings.Repeat(`\377`, 1000)+`";`)
	holdFile(t, file(asks("a", "1")), "option a = 1;")
	holdFile(t, file(message("A")), "message A {", "}")
	holdFile(t, file(mk(api.KEnum, "E")), "enum E {", "}")
	holdFile(t, file(mk(api.KService, "S")), "service S {", "}")
	for _, named := range []string{"A", "a.B", ".a.B", ".message.B", ".int32", "a.int32"} {
		holdFile(t, file(mk(api.KExtend, named)), "extend "+named+" {", "}")
	}
	// Statements stand in their order, whatever their kinds.
	holdFile(t, file(message("A"), asks("a", "1"), mk(api.KImport, "x"), mk(api.KEnum, "E"), mk(api.KPackage, "p"), message("A"), with(1, mk(api.KImport, "x")), asks("a", "1")),
		"message A {", "}", "option a = 1;", `import "x";`, "enum E {", "}", "package p;", "message A {", "}", `import public "x";`, "option a = 1;")
}

// P9.1: what stands in braces is two blanks more to the right.
func TestWithin(t *testing.T) {
	plain := field("f", 1, typ("A"))
	oneof := mk(api.KOneof, "o", asks("a", "1"), plain, plain)
	enum := mk(api.KEnum, "E", mk(api.KValue, "V"), asks("a", "1"), mk(api.KValue, "W"))
	extend := mk(api.KExtend, ".A", with(3, plain), plain)
	holdFile(t, file(message("A", oneof, message("B", message("C", plain), oneof), enum, extend, asks("a", "1"))),
		"message A {",
		"  oneof o {", "    option a = 1;", "    A f = 1;", "    A f = 1;", "  }",
		"  message B {",
		"    message C {", "      A f = 1;", "    }",
		"    oneof o {", "      option a = 1;", "      A f = 1;", "      A f = 1;", "    }",
		"  }",
		"  enum E {", "    V = 0;", "    option a = 1;", "    W = 0;", "  }",
		"  extend .A {", "    repeated A f = 1;", "    A f = 1;", "  }",
		"  option a = 1;",
		"}")
	holdFile(t, file(extend, enum), "extend .A {", "  repeated A f = 1;", "  A f = 1;", "}", "enum E {", "  V = 0;", "  option a = 1;", "  W = 0;", "}")
	holdFile(t, file(message("A", message("B", mk(api.KOneof, "o"), mk(api.KEnum, "E"), mk(api.KExtend, "T")))),
		"message A {", "  message B {", "    oneof o {", "    }", "    enum E {", "    }", "    extend T {", "    }", "  }", "}")
	// The braces of a worth move nothing: they are closed on their line.
	deep := option(bare("a"), aggr(entry("b", aggr())))
	holdFile(t, file(message("A", deep, plain)), "message A {", "  option a = {b {}};", "  A f = 1;", "}")
}

// P9.1: fields by label, type, number and options.
func TestFields(t *testing.T) {
	labels := []string{"", "optional ", "required ", "repeated "}
	types := []string{"double", "float", "int32", "int64", "uint32", "uint64", "sint32", "sint64", "fixed32", "fixed64",
		"sfixed32", "sfixed64", "bool", "string", "bytes", "A", "a.b.C", ".A", ".a.b", ".optional", ".int32", "group", "A.message"}
	names := []string{"b", "option", "optional", "map", "message", "int32", "to", "_", strings.Repeat("n", 200)}
	for a, label := range labels {
		for i, of := range types {
			name, n := names[i%len(names)], []int64{0, 1, 15, 1<<29 - 1, 1 << 29, 1<<31 - 1}[i%6]
			f := with(a, field(name, n, typ(of)))
			line := fmt.Sprintf("%s%s %s = %d;", label, of, name, n)
			holdFile(t, file(message("A", f)), "message A {", "  "+line, "}")
			holdFile(t, file(mk(api.KExtend, "A", f)), "extend A {", "  "+line, "}")
			if a == 0 {
				holdFile(t, file(message("A", mk(api.KOneof, "o", f))), "message A {", "  oneof o {", "    "+line, "  }", "}")
			}
			if i < 15 && a == 0 {
				m := numbered(mk(api.KMap, name, typ(of), typ(types[len(types)-1-i])), n)
				line := fmt.Sprintf("map<%s, %s> %s = %d;", of, types[len(types)-1-i], name, n)
				holdFile(t, file(message("A", m)), "message A {", "  "+line, "}")
			}
		}
	}
	one, two := asks("a", "1"), option(bare("default"), mk(api.KIdent, "x"))
	holdFile(t, file(message("A",
		with(2, field("b", 1, typ("A"), one)), field("b", 1, typ("A"), one, two), field("b", 1, typ("A"), two, one, two),
		numbered(mk(api.KMap, "m", typ("bool"), typ("A"), one), 2), numbered(mk(api.KMap, "m", typ("bool"), typ("A"), two, one), 2))),
		"message A {",
		"  required A b = 1 [a = 1];", "  A b = 1 [a = 1, default = x];", "  A b = 1 [default = x, a = 1, default = x];",
		"  map<bool, A> m = 2 [a = 1];", "  map<bool, A> m = 2 [default = x, a = 1];",
		"}")
}

// P9.1: values, whose numbers may be below 0.
func TestValues(t *testing.T) {
	for _, n := range []int64{0, 1, -1, 9, 10, -10, math.MaxInt32, math.MinInt32, math.MinInt32 + 1} {
		for _, name := range []string{"A", "message", "OPTION", "reserve", "options", "int32"} {
			v := numbered(mk(api.KValue, name), n)
			holdFile(t, file(mk(api.KEnum, "E", v)), "enum E {", fmt.Sprintf("  %s = %d;", name, n), "}")
			v.Kids = []api.Node{asks("a", "1"), asks("b", "-2")}
			holdFile(t, file(mk(api.KEnum, "E", v)), "enum E {", fmt.Sprintf("  %s = %d [a = 1, b = -2];", name, n), "}")
		}
	}
}

// P9.1: ranges, alone and as lists.
func TestRanges(t *testing.T) {
	edges := []int64{0, 1, 2, 1<<29 - 2, 1<<29 - 1, 1 << 29, 1<<31 - 1}
	var all []api.Node
	var texts []string
	for _, from := range edges {
		for _, to := range edges {
			want := fmt.Sprint(from, " to ", to)
			switch {
			case from == to:
				want = fmt.Sprint(from)
			case to == 536870911:
				want = fmt.Sprint(from, " to max")
			}
			n := span(from, to)
			all, texts = append(all, n), append(texts, want)
			holdFile(t, file(message("A", mk(api.KExtensions, "", n), mk(api.KReserved, "", n))),
				"message A {", "  extensions "+want+";", "  reserved "+want+";", "}")
		}
	}
	list := strings.Join(texts, ", ")
	holdFile(t, file(message("A", mk(api.KReserved, "", all...), mk(api.KExtensions, "", all...))),
		"message A {", "  reserved "+list+";", "  extensions "+list+";", "}")
}

// P9.1: words that are reserved.
func TestWords(t *testing.T) {
	long := strings.Repeat("w", 200)
	holdFile(t, file(message("A", mk(api.KReserved, "", mk(api.KWord, "u")), mk(api.KReserved, "", mk(api.KWord, "max"), mk(api.KWord, long), mk(api.KWord, "_")))),
		"message A {", `  reserved "u";`, `  reserved "max", "`+long+`", "_";`, "}")
}

// P9.1: calls, with either side streaming, without options and with them.
func TestRpc(t *testing.T) {
	heads := []string{
		"  rpc R(In) returns (.a.Out)", "  rpc R(stream In) returns (.a.Out)",
		"  rpc R(In) returns (stream .a.Out)", "  rpc R(stream In) returns (stream .a.Out)",
	}
	for a, head := range heads {
		n := with(a, mk(api.KRpc, "R", typ("In"), typ(".a.Out")))
		holdFile(t, file(mk(api.KService, "S", n)), "service S {", head+";", "}")
		n.Kids = append(n.Kids, asks("a", "1"))
		holdFile(t, file(mk(api.KService, "S", asks("b", "2"), n)), "service S {", "  option b = 2;", head+" {", "    option a = 1;", "  }", "}")
		n.Kids = append(n.Kids, asks("c", "3"))
		holdFile(t, file(mk(api.KService, "S", n, said(" n\n", n))), "service S {",
			head+" {", "    option a = 1;", "    option c = 3;", "  }",
			"  // n", head+" {", "    option a = 1;", "    option c = 3;", "  }", "}")
	}
	holdFile(t, file(mk(api.KService, "S", mk(api.KRpc, "stream", typ("int32"), typ(".stream")))), "service S {", "  rpc stream(int32) returns (.stream);", "}")
}

// P9.1: comments stand ahead of their statement, as far to the right as it does.
func TestDocs(t *testing.T) {
	docs := map[string][]string{
		"":                        nil,
		"\n":                      {"//"},
		" a\n":                    {"// a"},
		"a\n\n b \n":              {"//a", "//", "// b "},
		"\n\n":                    {"//", "//"},
		"/*\n*/\n// c\n":          {"///*", "//*/", "//// c"},
		"\xff\x00\r\n\t\v\f\n}\n": {"//\xff\x00\r", "//\t\v\f", "//}"},
	}
	for doc, lines := range docs {
		in := func(deep int, l ...string) []string {
			out := []string{}
			for _, line := range append(slices.Clone(lines), l...) {
				out = append(out, strings.Repeat("  ", deep)+line)
			}
			return out
		}
		n := file(
			said(doc, message("A",
				said(doc, field("f", 1, typ("A"))),
				said(doc, numbered(mk(api.KMap, "m", typ("bool"), typ("A")), 1)),
				said(doc, mk(api.KOneof, "o", said(doc, field("g", 2, typ("A"))))),
				said(doc, mk(api.KEnum, "E", said(doc, mk(api.KValue, "V")))),
				mk(api.KExtend, "A", said(doc, field("h", 3, typ("A")))),
				said(doc, message("B")))),
			said(doc, mk(api.KEnum, "E")),
			said(doc, mk(api.KService, "S", said(doc, mk(api.KRpc, "R", typ("A"), typ("A"))))))
		holdFile(t, n, slices.Concat(
			in(0, "message A {"),
			in(1, "A f = 1;"), in(1, "map<bool, A> m = 1;"),
			in(1, "oneof o {"), in(2, "A g = 2;"), []string{"  }"},
			in(1, "enum E {"), in(2, "V = 0;"), []string{"  }", "  extend A {"},
			in(2, "A h = 3;"), []string{"  }"},
			in(1, "message B {"), []string{"  }", "}"},
			in(0, "enum E {"), []string{"}"},
			in(0, "service S {"), in(1, "rpc R(A) returns (A);"), []string{"}"})...)
	}
	long := strings.Repeat("\n", 10000)
	n := file(message("A", said(long, message("B"))))
	if got, err := show.File(n); err != api.OK || got != "message A {\n"+strings.Repeat("  //\n", 10000)+"  message B {\n  }\n}\n" {
		t.Errorf("a long Doc: %d, %d bytes", err, len(got))
	} else {
		holdBack(t, n, got)
	}
}

// P9.2: parts of an option's name.
func TestParts(t *testing.T) {
	one := number("1")
	full := func(s string) api.Node { return with(1, bare(s)) }
	holdOption(t, option(bare("a"), one), "a = 1")
	holdOption(t, option(full("a"), one), "(a) = 1")
	holdOption(t, option(full(".a"), one), "(.a) = 1")
	holdOption(t, option(full("a.b"), bare("c"), one), "(a.b).c = 1")
	holdOption(t, option(full(".a.b.option"), full("c"), bare("d"), bare("to"), one), "(.a.b.option).(c).d.to = 1")
	holdOption(t, option(bare("option"), full(".int32"), one), "option.(.int32) = 1")
	ident := strings.Repeat("n", 199)
	long := strings.Join([]string{ident, ident, ident, ident, ident + "n"}, ".")
	holdOption(t, option(bare(ident), full("."+long), full(long), one), ident+".(."+long+").("+long+") = 1")
}

// P9.2: worths of all kinds.
func TestWorths(t *testing.T) {
	for _, digits := range []string{"0", "1", "-1", "18446744073709551615", "-9223372036854775808", "100"} {
		holdOption(t, asks("a", digits), "a = "+digits)
	}
	for _, word := range []string{"b", "true", "inf", "option", "max", "_", strings.Repeat("n", 200)} {
		holdOption(t, option(bare("a"), mk(api.KIdent, word)), "a = "+word)
	}
	all := make([]byte, 256)
	for i := range all {
		all[i] = byte(i)
	}
	for _, s := range []string{"", "x", "{", `"`, `\`, "'", "a\tb\r\n", "\u20ac", string(all), strings.Repeat("\x80", 10000), strings.Repeat("y", 10000)} {
		holdOption(t, option(bare("a"), mk(api.KString, s)), "a = "+quote.Text([]byte(s)))
	}
	holdOption(t, option(bare("a"), mk(api.KString, "\"\\\n\x01z")), `a = "\"\\\n\001z"`)
}

// P9.2: aggregates and their entries.
func TestAggregates(t *testing.T) {
	full := func(s string, worth api.Node) api.Node { return with(1, entry(s, worth)) }
	one, word, text := number("-1"), mk(api.KIdent, "w"), mk(api.KString, "a b")
	tries := []struct {
		n    api.Node
		want string
	}{
		{aggr(), "{}"},
		{aggr(entry("a", one)), "{a: -1}"},
		{aggr(entry("a", one), entry("a", one)), "{a: -1 a: -1}"},
		{aggr(entry("a", word), entry("b", text), entry("c", one)), `{a: w b: "a b" c: -1}`},
		{aggr(full("a", one)), "{[a]: -1}"},
		{aggr(full(".a.b", word), full("a.b", text)), `{[.a.b]: w [a.b]: "a b"}`},
		{aggr(entry("a", word), full("b", one), entry("c", word)), "{a: w [b]: -1 c: w}"},
		{aggr(entry("a", aggr())), "{a {}}"},
		{aggr(full("a.b", aggr()), full(".c", aggr(entry("d", one)))), "{[a.b] {} [.c] {d: -1}}"},
		{aggr(entry("a", aggr(entry("b", aggr(entry("c", one), entry("d", aggr()))), entry("e", one))), entry("f", word)), "{a {b {c: -1 d {}} e: -1} f: w}"},
	}
	for _, try := range tries {
		holdOption(t, option(bare("x"), try.n), "x = "+try.want)
	}
}

// refuse holds that both calls answer the error and nothing beside it.
func refuse(t *testing.T, what string, n api.Node) {
	t.Helper()
	if got, err := show.File(n); err != api.ErrShow || got != "" {
		t.Errorf("%s: File %d, %q", what, err, got)
	}
	if got, err := show.Option(n); err != api.ErrShow || got != "" {
		t.Errorf("%s: Option %d, %q", what, err, got)
	}
}

// P9.1, P9.2: what node.Check doesn't take isn't shown.
func TestRefused(t *testing.T) {
	refuse(t, "no node", api.Node{})
	for kind := -1; kind <= 26; kind++ {
		if kind != api.KFile {
			refuse(t, fmt.Sprint("the kind ", kind), mk(kind, ""))
			refuse(t, fmt.Sprint("a named one of the kind ", kind), mk(kind, "a"))
		}
		refuse(t, fmt.Sprint("a nameless kid of the kind ", kind), file(message("", mk(kind, ""))))
		if kind != api.KString { // any text may be one
			refuse(t, fmt.Sprint("a worth of the kind ", kind), file(option(bare("a"), mk(kind, "-"))))
		}
	}
	for _, n := range []api.Node{
		mk(api.KFile, "proto4"), numbered(file(), 1), with(1, file()), said("\n", file()), {Kind: api.KFile, At: -1}, {Kind: api.KFile, M: 1},
		file(file()), file(mk(api.KPackage, "a"), mk(api.KPackage, "a")), file(mk(api.KPackage, ".a")),
		file(mk(api.KImport, strings.Repeat("a", 1001))), file(with(2, mk(api.KImport, "a"))), file(with(-1, mk(api.KImport, "a"))),
		file(message("1")), file(message("a.b")), file(field("a", 1, typ("A"))), file(mk(api.KExtend, "int32")), file(mk(api.KExtend, "stream.A")),
		file(message("A", field("a", 1))), file(message("A", field("a", -1, typ("A")))), file(message("A", field("a", 1<<31, typ("A")))),
		file(message("A", with(4, field("a", 1, typ("A"))))), file(message("A", field("a", 1, typ("message")))),
		file(message("A", mk(api.KOneof, "o", with(1, field("a", 1, typ("A")))))),
		file(message("A", mk(api.KMap, "m", typ("A"), typ("A")))), file(message("A", mk(api.KMap, "m", typ("bool")))),
		file(message("A", mk(api.KExtensions, ""))), file(message("A", mk(api.KReserved, ""))), file(message("A", mk(api.KExtensions, "", span(-1, 1)))),
		file(message("A", mk(api.KReserved, "", span(1, 1), mk(api.KWord, "a")))), file(message("A", mk(api.KReserved, "", mk(api.KWord, "a b")))),
		file(mk(api.KEnum, "E", mk(api.KValue, "option"))), file(mk(api.KEnum, "E", mk(api.KValue, "reserved"))), file(mk(api.KEnum, "E", numbered(mk(api.KValue, "V"), math.MinInt64))),
		file(mk(api.KService, "S", mk(api.KRpc, "R", typ("A")))), file(mk(api.KService, "S", mk(api.KRpc, "R"))), file(mk(api.KService, "S", with(4, mk(api.KRpc, "R", typ("A"), typ("A"))))),
		file(said("a", message("A"))), file(said(strings.Repeat("\n", 10001), message("A"))), file(said("\n", mk(api.KExtend, "A"))),
		message("A"),
	} {
		refuse(t, fmt.Sprint("the tree ", n), n)
	}
}

// P9.2: options that may not stand in a file; File refuses a file with them too.
func TestOptionsRefused(t *testing.T) {
	good := asks("a", "1")
	for _, n := range []api.Node{
		option(), option(bare("a")), option(number("1")), option(number("1"), bare("a")), option(bare("a"), number("1"), number("1")),
		option(bare(""), number("1")), option(bare("a.b"), number("1")), option(with(2, bare("a")), number("1")), option(with(1, bare("..a")), number("1")),
		asks("a", ""), asks("a", "-0"), asks("a", "01"), asks("a", "18446744073709551616"), asks("a", "-9223372036854775809"), asks("a", "1.5"),
		option(bare("a"), mk(api.KIdent, "a.b")), option(bare("a"), mk(api.KIdent, "-inf")), option(bare("a"), mk(api.KString, strings.Repeat("a", 10001))),
		option(bare("a"), aggr(number("1"))), option(bare("a"), aggr(mk(api.KEntry, "b"))), option(bare("a"), aggr(mk(api.KEntry, "b", number("1"), number("1")))),
		option(bare("a"), aggr(entry("b.c", number("1")))), option(bare("a"), aggr(entry("b", bare("c")))), option(bare("a"), mk(api.KAggr, "x")),
		said("\n", good), with(1, good), numbered(good, 1), {Kind: api.KOption, Text: "a", Kids: good.Kids}, {Kind: api.KOption, At: -1, Kids: good.Kids},
		{Kind: api.KOption, M: 1, Kids: good.Kids}, {Kind: api.KMessage, Kids: good.Kids},
	} {
		refuse(t, fmt.Sprint("the option ", n), n)
		refuse(t, fmt.Sprint("a file with ", n), file(n))
	}
	if got, err := show.Option(file(good)); err != api.ErrShow || got != "" {
		t.Errorf("Option of a file: %d, %q", err, got)
	}
	if got, err := show.Option(good); err != api.OK || got != "a = 1" {
		t.Errorf("Option: %d, %q", err, got)
	}
}

// P9.1, P9.2: as many nodes, and as deep, as node.Check takes; of an option a file's one more.
func TestLimits(t *testing.T) {
	many := func(parts, entries int) api.Node {
		worth := aggr(slices.Repeat([]api.Node{entry("b", number("1"))}, entries)...)
		return option(append(slices.Repeat([]api.Node{bare("a")}, parts), worth)...)
	}
	holdSize(t, many(1, 9998), true)
	holdSize(t, many(2, 9998), false)
	nested := func(worth api.Node, entries int) api.Node {
		for range entries {
			worth = aggr(entry("a", worth))
		}
		return option(bare("x"), worth)
	}
	for entries := 29; entries <= 32; entries++ { // the option, two for each entry, and the worth of the last
		holdSize(t, nested(number("1"), entries), entries <= 30)
	}
	whole := file(slices.Repeat([]api.Node{message("A")}, 19999)...)
	if got, err := show.File(whole); err != api.OK || got != strings.Repeat("message A {\n}\n", 19999) {
		t.Errorf("20,000 nodes: %d, %d bytes", err, len(got))
	}
	whole.Kids = append(whole.Kids, message("A"))
	refuse(t, "20,001 nodes", whole)
}

// holdSize holds whether an option is shown, alone and in a file.
func holdSize(t *testing.T, n api.Node, want bool) {
	t.Helper()
	what := fmt.Sprint(node.Count(n), " nodes, ", node.Deep(n), " within one another")
	if !want {
		refuse(t, what, n)
		refuse(t, what+" and a file", file(n))
		return
	}
	got, err := show.Option(n)
	if err != api.OK || got != opt(n) {
		t.Errorf("%s: %d, %d bytes", what, err, len(got))
	}
	whole, err := show.File(file(n))
	if err != api.OK || whole != "option "+got+";\n" {
		t.Errorf("%s and a file: %d, %d bytes", what, err, len(whole))
	}
}

// nested answers so many messages within one another, and their source.
func nested(count int) (api.Node, string) {
	n, s := message("A"), strings.Repeat("  ", count-1)+"message A {\n"+strings.Repeat("  ", count-1)+"}\n"
	for i := count - 2; i >= 0; i-- {
		n = message("A", n)
		s = strings.Repeat("  ", i) + "message A {\n" + s + strings.Repeat("  ", i) + "}\n"
	}
	return file(n), s
}

// P9.1, P9.3: more braces than parse takes are shown, and sources longer than it takes.
func TestBeyondParse(t *testing.T) {
	for _, count := range []int{1, 2, 29, 30, 31, 63} {
		n, want := nested(count)
		got, err := show.File(n)
		if err != api.OK || got != want {
			t.Fatalf("%d braces: %d, %q", count, err, got)
		}
		back, _, err := parse.File(got)
		if count <= 30 && (err != api.OK || !node.Same(back, n)) || count > 30 && err != api.ErrDeep {
			t.Errorf("%d braces, back: %d", count, err)
		}
	}
	n, _ := nested(64)
	refuse(t, "64 messages in a file", n)
	// A source of just as many bytes as there may be comes back, with one more it doesn't.
	line := func(size int) api.Node {
		return mk(api.KImport, strings.Repeat("x", size-len("import \"\";\n")))
	}
	for last := 999; last <= 1001; last++ {
		n := file(append(slices.Repeat([]api.Node{line(1000)}, 99), line(last))...)
		got, err := show.File(n)
		if err != api.OK || len(got) != 99000+last {
			t.Fatalf("%d bytes: %d, %d", 99000+last, err, len(got))
		}
		back, _, err := parse.File(got)
		if last <= 1000 && (err != api.OK || !node.Same(back, n)) || last > 1000 && err != api.ErrLong {
			t.Errorf("%d bytes, back: %d", len(got), err)
		}
	}
}

// P1: trees without end, and lists with nodes that aren't theirs behind their length.
func TestOddTrees(t *testing.T) {
	loop := []api.Node{message("A")}
	loop[0].Kids = loop
	refuse(t, "a message within itself", file(loop...))
	ring := []api.Node{bare("a"), aggr(entry("b", api.Node{}))}
	ring[1].Kids[0].Kids[0] = ring[1]
	refuse(t, "an aggregate within itself", option(ring...))
	refuse(t, "a file with it", file(option(ring...)))
	wide := []api.Node{message("A"), message("B"), {Kind: -1, Text: "beyond"}}
	holdFile(t, file(wide[:1]...), "message A {", "}")
	parts := []api.Node{bare("a"), number("1"), number("2")}
	holdOption(t, option(parts[:2]...), "a = 1")
	holdFile(t, api.Node{Kind: api.KFile, Kids: []api.Node{{Kind: api.KMessage, Text: "A", Kids: []api.Node{}}}}, "message A {", "}")
	// The places say nothing.
	n := file(message("A", field("b", 1, typ("A"))))
	n.At, n.Kids[0].At, n.Kids[0].Kids[0].At = math.MaxInt, 7, 3
	holdFile(t, n, "message A {", "  A b = 1;", "}")
}

// overlaps answers whether two texts share bytes.
func overlaps(a, b string) bool {
	if a == "" || b == "" {
		return false
	}
	from, other := uintptr(unsafe.Pointer(unsafe.StringData(a))), uintptr(unsafe.Pointer(unsafe.StringData(b)))
	return from < other+uintptr(len(b)) && other < from+uintptr(len(a))
}

// P2: an answer is new memory, and a tree isn't changed.
func TestMemory(t *testing.T) {
	for seed := range uint64(50) {
		n, again := sample(seed, 60), sample(seed, 60)
		one, _ := show.File(n)
		two, _ := show.File(n)
		if one != two || overlaps(one, two) {
			t.Fatalf("the sample %d: one answer twice", seed)
		}
		if !reflect.DeepEqual(n, again) {
			t.Fatalf("the sample %d is changed", seed)
		}
		var walk func(n api.Node)
		walk = func(n api.Node) {
			if overlaps(one, n.Text) || overlaps(one, n.Doc) {
				t.Fatalf("the sample %d: the answer has memory of the tree", seed)
			}
			if n.Kind == api.KOption {
				s, err := show.Option(n)
				if err != api.OK || overlaps(s, one) || !strings.Contains(one, s) {
					t.Fatalf("the sample %d: %d, %q", seed, err, s)
				}
			}
			for _, kid := range n.Kids {
				walk(kid)
			}
		}
		walk(n)
	}
}

// P9.3: a Doc comes back by lex's own way.
func TestDocBack(t *testing.T) {
	s, _ := show.File(file(said(" one\n\n two\n", message("A"))))
	l, _, err := lex.Scan(s)
	if err != api.OK || l[0].Doc != " one\n\n two\n" {
		t.Errorf("%q: %d, %q", s, err, l[0].Doc)
	}
}
