package lower

import (
	"slices"
	"strings"

	"glossary/api"
	"glossary/names"
	"glossary/node"
)

const (
	proto3 = "proto3"
	dot    = "."
)

// The numbers of lists, as paths have them: those of chapter 11's table.
const (
	fileMessages   = 4
	fileEnums      = 5
	fileServices   = 6
	fileExtends    = 7
	messageFields  = 2
	messageNested  = 3
	messageEnums   = 4
	messageExtends = 6
	messageOneofs  = 8
	enumValues     = 2
	serviceMethods = 2
)

// lowering is a tree on its way to a description.
type lowering struct {
	proto3 bool
	asked  []api.Asked // the options so far
}

// fault is what a lowering panics with: what may not be, and where.
type fault struct {
	at  int
	err api.Errno
}

// caught answers the file of a tree that node.Check takes, or what may not be in it.
func (l *lowering) caught(n api.Node, path string) (file api.File, wrong fault) {
	defer func() {
		if f, is := recover().(fault); is {
			wrong = f
		}
	}()
	return l.file(n, path), fault{}
}

// place answers the path of what stands in the part at a path.
func place(path []int, more ...int) []int {
	return slices.Concat(path, more)
}

// ask lays down a part's options, which come ahead of those of all that stands in it.
func (l *lowering) ask(n api.Node, of string, path ...int) {
	for _, option := range node.Of(n, api.KOption) {
		l.askOne(option, of, path...)
	}
}

// askOne lays down an option in a memory of its own.
func (l *lowering) askOne(option api.Node, of string, path ...int) {
	l.asked = append(l.asked, api.Asked{Path: slices.Clone(path), Of: of, Opt: option})
}

func (l *lowering) file(n api.Node, path string) api.File {
	scope := packageOf(n)
	f := api.File{Name: strings.Clone(path), Package: strings.Clone(scope)}
	if l.proto3 {
		f.Syntax = proto3
	}
	l.ask(n, "File")
	for _, kid := range n.Kids {
		switch kid.Kind {
		case api.KImport:
			if kid.A == 1 {
				f.Public = append(f.Public, len(f.Deps))
			}
			f.Deps = append(f.Deps, strings.Clone(kid.Text))
		case api.KMessage:
			f.Messages = append(f.Messages, l.message(kid, scope, fileMessages, len(f.Messages)))
		case api.KEnum:
			f.Enums = append(f.Enums, l.enum(kid, fileEnums, len(f.Enums)))
		case api.KService:
			f.Services = append(f.Services, l.service(kid, fileServices, len(f.Services)))
		case api.KExtend:
			f.Extends = l.extend(kid, f.Extends, fileExtends)
		}
	}
	return f
}

// packageOf answers a file's package, which may stand behind what it is the scope of.
func packageOf(n api.Node) string {
	for _, kid := range n.Kids {
		if kid.Kind == api.KPackage {
			return kid.Text
		}
	}
	return ""
}

func (l *lowering) message(n api.Node, scope string, path ...int) api.Message {
	m := api.Message{Name: strings.Clone(n.Text)}
	own := names.Join(scope, n.Text)
	l.ask(n, "Message", path...)
	for _, kid := range n.Kids {
		switch kid.Kind {
		case api.KField:
			m.Fields = append(m.Fields, l.field(kid, api.Field{}, place(path, messageFields, len(m.Fields))...))
		case api.KMap:
			entry := entryOf(kid)
			typeName := dot + names.Join(own, entry.Name)
			m.Nested = append(m.Nested, entry)
			m.Fields = append(m.Fields, l.mapField(kid, typeName, place(path, messageFields, len(m.Fields))...))
		case api.KOneof:
			l.oneof(kid, &m, path...)
		case api.KMessage:
			m.Nested = append(m.Nested, l.message(kid, own, place(path, messageNested, len(m.Nested))...))
		case api.KEnum:
			m.Enums = append(m.Enums, l.enum(kid, place(path, messageEnums, len(m.Enums))...))
		case api.KExtend:
			m.Extends = l.extend(kid, m.Extends, place(path, messageExtends)...)
		case api.KExtensions:
			m.Ranges = append(m.Ranges, rangesOf(kid)...)
		case api.KReserved:
			m.Reserved = append(m.Reserved, rangesOf(kid)...)
			m.Words = append(m.Words, wordsOf(kid)...)
		}
	}
	setApart(&m)
	return m
}

// oneof lays down a oneof of the message at a path, and the fields that stand in it.
func (l *lowering) oneof(n api.Node, m *api.Message, path ...int) {
	l.ask(n, "Oneof", place(path, messageOneofs, len(m.Oneofs))...)
	m.Oneofs = append(m.Oneofs, api.Oneof{Name: strings.Clone(n.Text)})
	for _, kid := range n.Kids {
		if kid.Kind == api.KField {
			inside := api.Field{Oneof: len(m.Oneofs)}
			m.Fields = append(m.Fields, l.field(kid, inside, place(path, messageFields, len(m.Fields))...))
		}
	}
}

// setApart lays down, behind the message's own oneofs, one for each optional field, with it alone.
func setApart(m *api.Message) {
	var taken []string
	for _, f := range m.Fields {
		taken = append(taken, f.Name)
	}
	for _, o := range m.Oneofs {
		taken = append(taken, o.Name)
	}
	for i := range m.Fields {
		f := &m.Fields[i]
		if !f.Optional {
			continue
		}
		name := names.Synthetic(f.Name, taken)
		taken = append(taken, name)
		m.Oneofs = append(m.Oneofs, api.Oneof{Name: name})
		f.Oneof = len(m.Oneofs)
	}
}

// extend answers the list at a path with the extensions behind those that are there.
func (l *lowering) extend(n api.Node, list []api.Field, path ...int) []api.Field {
	for _, kid := range n.Kids {
		of := api.Field{Extendee: strings.Clone(n.Text)}
		list = append(list, l.field(kid, of, place(path, len(list))...))
	}
	return list
}

func (l *lowering) enum(n api.Node, path ...int) api.Enum {
	e := api.Enum{Name: strings.Clone(n.Text)}
	l.ask(n, "Enum", path...)
	for _, kid := range n.Kids {
		if kid.Kind == api.KValue {
			l.ask(kid, "EnumValue", place(path, enumValues, len(e.Values))...)
			e.Values = append(e.Values, api.Value{Name: strings.Clone(kid.Text), Number: kid.N})
		}
	}
	return e
}

func (l *lowering) service(n api.Node, path ...int) api.Service {
	s := api.Service{Name: strings.Clone(n.Text)}
	l.ask(n, "Service", path...)
	for _, kid := range n.Kids {
		if kid.Kind == api.KRpc {
			l.ask(kid, "Method", place(path, serviceMethods, len(s.Methods))...)
			s.Methods = append(s.Methods, methodOf(kid))
		}
	}
	return s
}

func methodOf(n api.Node) api.Method {
	return api.Method{
		Name:   strings.Clone(n.Text),
		In:     strings.Clone(n.Kids[0].Text),
		Out:    strings.Clone(n.Kids[1].Text),
		Client: n.A&1 != 0,
		Server: n.A&2 != 0,
	}
}

func rangesOf(n api.Node) []api.Range {
	var l []api.Range
	for _, kid := range n.Kids {
		if kid.Kind == api.KRange {
			l = append(l, api.Range{From: kid.N, To: kid.M})
		}
	}
	return l
}

func wordsOf(n api.Node) []string {
	var l []string
	for _, kid := range n.Kids {
		if kid.Kind == api.KWord {
			l = append(l, strings.Clone(kid.Text))
		}
	}
	return l
}
