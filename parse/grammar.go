package parse

import (
	"strings"

	"glossary/api"
)

// file reads all tokens.
func (r *reader) file() api.Node {
	return r.read(api.KFile, r.syntax, r.statements(r.inFile), func(*api.Node) { r.must(isEnd(r.token())) })
}

// syntax reads which one the file has, where it says so: nowhere but first.
func (r *reader) syntax(n *api.Node) {
	if !r.skip("syntax") {
		return
	}
	r.must(r.skip("="))
	t := r.token()
	r.must(t.Kind == api.TokStr && (t.Text == "proto2" || t.Text == "proto3"))
	n.Text = strings.Clone(r.take().Text)
	r.must(r.skip(";"))
}

func (r *reader) inFile() api.Node {
	switch r.word() {
	case "import":
		return r.imported()
	case "package":
		return r.pack()
	case "service":
		return r.service()
	case "option":
		return r.option()
	case "message":
		return r.message()
	case "enum":
		return r.enum()
	}
	// What is none of these either is told when it is read as one.
	return r.extend()
}

func (r *reader) inMessage() api.Node {
	switch r.word() {
	case "message":
		return r.message()
	case "enum":
		return r.enum()
	case "extend":
		return r.extend()
	case "option":
		return r.option()
	case "oneof":
		return r.oneof()
	case "extensions":
		return r.extensions()
	case "reserved":
		return r.reserved()
	}
	if r.seesMap() {
		return r.mapField()
	}
	return r.field()
}

func (r *reader) inOneof() api.Node {
	if r.sees("option") {
		return r.option()
	}
	return r.fieldOf()
}

func (r *reader) inEnum() api.Node {
	if r.sees("option") {
		return r.option()
	}
	return r.value()
}

func (r *reader) inService() api.Node {
	if r.sees("option") {
		return r.option()
	}
	return r.rpc()
}

func (r *reader) imported() api.Node {
	public := func(n *api.Node) {
		if r.skip("public") {
			n.A = 1
		}
	}
	return r.read(api.KImport, r.only("import"), public, r.path, r.only(";"))
}

func (r *reader) pack() api.Node {
	r.must(!r.packed)
	r.packed = true
	full := func(n *api.Node) { n.Text = r.full() }
	return r.read(api.KPackage, r.only("package"), full, r.only(";"))
}

// option reads a statement; its node begins with the option itself, behind the word.
func (r *reader) option() api.Node {
	r.must(r.skip("option"))
	n := r.opt()
	r.must(r.skip(";"))
	return n
}

func (r *reader) opt() api.Node {
	return r.read(api.KOption, r.list(dot, r.optionPart), r.only("="), r.worth)
}

func (r *reader) optionPart() api.Node {
	return r.read(api.KPart, r.nameOrRef("(", ")"))
}

// opts reads options in brackets, where there are any.
func (r *reader) opts(n *api.Node) {
	if !r.skip("[") {
		return
	}
	r.list(",", r.opt)(n)
	r.must(r.skip("]"))
}

// worth reads one as a kid.
func (r *reader) worth(n *api.Node) {
	n.Kids = append(n.Kids, r.anyWorth())
}

func (r *reader) anyWorth() api.Node {
	switch {
	case r.sees("{"):
		return r.read(api.KAggr, r.braces(r.entries))
	case r.token().Kind == api.TokStr:
		return r.read(api.KString, r.textWorth)
	case r.token().Kind == api.TokName:
		return r.read(api.KIdent, r.name)
	}
	return r.read(api.KInt, r.digits)
}

func (r *reader) entries(n *api.Node) {
next:
	if r.sees("}") {
		return
	}
	n.Kids = append(n.Kids, r.read(api.KEntry, r.nameOrRef("[", "]"), r.entryWorth))
	r.skip(",", ";")
	goto next
}

func (r *reader) entryWorth(n *api.Node) {
	// Without a colon there is but one kind of worth.
	r.must(r.skip(":") || r.sees("{"))
	r.worth(n)
}

func (r *reader) message() api.Node {
	return r.read(api.KMessage, r.only("message"), r.name, r.block(r.inMessage))
}

func (r *reader) enum() api.Node {
	return r.read(api.KEnum, r.only("enum"), r.name, r.block(r.inEnum))
}

func (r *reader) value() api.Node {
	// node.Check has no value of this name.
	r.must(!r.sees("reserved"))
	return r.read(api.KValue, r.name, r.only("="), r.valueNumber, r.opts, r.only(";"))
}

func (r *reader) extend() api.Node {
	return r.read(api.KExtend, r.only("extend"), r.extendee, r.block(r.field))
}

func (r *reader) field() api.Node {
	return r.fieldOf(r.label)
}

// fieldOf reads a field; ahead are the parts that stand ahead of its type.
func (r *reader) fieldOf(ahead ...part) api.Node {
	return r.read(api.KField, append(ahead, r.types, r.name, r.only("="), r.fieldNumber, r.opts, r.only(";"))...)
}

func (r *reader) label(n *api.Node) {
	switch r.word() {
	case "optional":
		n.A = api.LabelOptional
	case "required":
		n.A = api.LabelRequired
	case "repeated":
		n.A = api.LabelRepeated
	default:
		return
	}
	r.take()
}

func (r *reader) mapField() api.Node {
	return r.read(api.KMap, r.only("map"), r.only("<"), r.key, r.only(","), r.types, r.only(">"),
		r.name, r.only("="), r.fieldNumber, r.opts, r.only(";"))
}

func (r *reader) oneof() api.Node {
	return r.read(api.KOneof, r.only("oneof"), r.name, r.block(r.inOneof))
}

func (r *reader) extensions() api.Node {
	return r.read(api.KExtensions, r.only("extensions"), r.list(",", r.numbers), r.only(";"))
}

func (r *reader) numbers() api.Node {
	return r.read(api.KRange, r.span)
}

func (r *reader) reserved() api.Node {
	ranges, words := r.list(",", r.numbers), r.list(",", r.quoted)
	either := func(n *api.Node) {
		if r.token().Kind == api.TokStr {
			words(n)
			return
		}
		ranges(n)
	}
	return r.read(api.KReserved, r.only("reserved"), either, r.only(";"))
}

func (r *reader) quoted() api.Node {
	return r.read(api.KWord, r.reservedWord)
}

func (r *reader) service() api.Node {
	return r.read(api.KService, r.only("service"), r.name, r.block(r.inService))
}

func (r *reader) rpc() api.Node {
	return r.read(api.KRpc, r.only("rpc"), r.name, r.only("("), r.stream(1), r.types, r.only(")"),
		r.only("returns"), r.only("("), r.stream(2), r.types, r.only(")"), r.rpcEnd)
}

// stream reads the word that says that one side does.
func (r *reader) stream(side int) part {
	return func(n *api.Node) {
		if r.skip("stream") {
			n.A |= side
		}
	}
}

func (r *reader) rpcEnd(n *api.Node) {
	if r.skip(";") {
		return
	}
	r.block(r.option)(n)
}
