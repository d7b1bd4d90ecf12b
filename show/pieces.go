package show

import (
	"strings"

	"glossary/api"
	"glossary/quote"
)

// piece writes a piece of a line.
type piece func(out *strings.Builder)

// text writes words as they are.
func text(words ...string) piece {
	return func(out *strings.Builder) {
		for _, word := range words {
			out.WriteString(word)
		}
	}
}

// quoted writes what a node says in quotes.
func quoted(n api.Node) piece {
	return func(out *strings.Builder) { out.WriteString(quote.Text([]byte(n.Text))) }
}

// joined writes pieces one behind the other.
func joined(pieces ...piece) piece {
	return func(out *strings.Builder) {
		for _, write := range pieces {
			write(out)
		}
	}
}

// listed writes nodes, each as one says, with a text between.
func listed(l []api.Node, between string, one func(n api.Node) piece) piece {
	return func(out *strings.Builder) {
		for i, n := range l {
			if i > 0 {
				out.WriteString(between)
			}
			one(n)(out)
		}
	}
}

// head writes a statement, but for its end or what it has in braces.
func head(n api.Node) piece {
	switch n.Kind {
	case api.KImport:
		return joined(text("import ", when(n.A == 1, "public ")), quoted(n))
	case api.KPackage:
		return text("package ", n.Text)
	case api.KOption:
		return joined(text("option "), option(n))
	case api.KMessage:
		return text("message ", n.Text)
	case api.KEnum:
		return text("enum ", n.Text)
	case api.KExtend:
		return text("extend ", n.Text)
	case api.KService:
		return text("service ", n.Text)
	case api.KOneof:
		return text("oneof ", n.Text)
	case api.KRpc:
		return rpc(n)
	case api.KExtensions:
		return joined(text("extensions "), listed(n.Kids, ", ", span))
	case api.KReserved:
		return joined(text("reserved "), listed(n.Kids, ", ", reserved))
	}
	return numbered(n)
}

// when answers s where it holds, else nothing.
func when(holds bool, s string) string {
	if holds {
		return s
	}
	return ""
}

func rpc(n api.Node) piece {
	stream := func(side int) string { return when(n.A&side != 0, "stream ") }
	in, out := n.Kids[0].Text, n.Kids[1].Text
	return text("rpc ", n.Text, "(", stream(1), in, ") returns (", stream(2), out, ")")
}

// numbered writes a field, a map or a value.
func numbered(n api.Node) piece {
	named := text(n.Text, " = ", decimal(n.N))
	switch n.Kind {
	case api.KField:
		return joined(text(label(n.A), n.Kids[0].Text, " "), named, options(n.Kids[1:]))
	case api.KMap:
		return joined(text("map<", n.Kids[0].Text, ", ", n.Kids[1].Text, "> "), named, options(n.Kids[2:]))
	}
	return joined(named, options(n.Kids))
}

func label(a int) string {
	switch a {
	case api.LabelOptional:
		return "optional "
	case api.LabelRequired:
		return "required "
	case api.LabelRepeated:
		return "repeated "
	}
	return ""
}

func decimal(n int64) string {
	if n < 0 {
		return "-" + quote.Digits(uint64(-n))
	}
	return quote.Digits(uint64(n))
}

// options writes those that stand behind a number.
func options(l []api.Node) piece {
	if len(l) == 0 {
		return text()
	}
	return joined(text(" ["), listed(l, ", ", option), text("]"))
}

func reserved(n api.Node) piece {
	if n.Kind == api.KWord {
		return quoted(n)
	}
	return span(n)
}

func span(n api.Node) piece {
	from, to := decimal(n.N), decimal(n.M)
	if n.M == n.N {
		return text(from)
	}
	if n.M == api.MaxField {
		to = "max"
	}
	return text(from, " to ", to)
}

func option(n api.Node) piece {
	last := len(n.Kids) - 1
	return joined(listed(n.Kids[:last], ".", part), text(" = "), worth(n.Kids[last]))
}

func part(n api.Node) piece {
	return bracketed(n, "(", ")")
}

// bracketed writes a name, with brackets where it is a full one.
func bracketed(n api.Node, left, right string) piece {
	if n.A == 1 {
		return text(left, n.Text, right)
	}
	return text(n.Text)
}

func worth(n api.Node) piece {
	switch n.Kind {
	case api.KString:
		return quoted(n)
	case api.KAggr:
		return joined(text("{"), listed(n.Kids, " ", entry), text("}"))
	}
	return text(n.Text)
}

func entry(n api.Node) piece {
	between := ": "
	if n.Kids[0].Kind == api.KAggr {
		between = " "
	}
	return joined(bracketed(n, "[", "]"), text(between), worth(n.Kids[0]))
}
