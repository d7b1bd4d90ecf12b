package lower

import (
	"strings"

	"glossary/api"
	"glossary/names"
	"glossary/node"
)

// field answers f, which has what it has by where it stands (its oneof, its extendee), with all that it has of its own.
func (l *lowering) field(n api.Node, f api.Field, path ...int) api.Field {
	f.Name, f.Number = strings.Clone(n.Text), n.N
	f.Label = l.label(n, f.Oneof > 0)
	f.Type, f.TypeName = typeOf(n.Kids[0])
	// What stands in a oneof has no label.
	f.Optional = l.proto3 && n.A == api.LabelOptional && f.Extendee == ""
	return l.optioned(n, f, path...)
}

// label answers a field's label, which proto2 asks for outside of oneofs.
func (l *lowering) label(n api.Node, inOneof bool) int {
	if n.A != api.LabelNone {
		return n.A
	}
	if !inOneof && !l.proto3 {
		panic(fault{n.At, api.ErrLabel})
	}
	return api.LabelOptional
}

// typeOf answers a type, and its name where it is none of the plain ones.
func typeOf(n api.Node) (int, string) {
	t := Type(n.Text)
	if t != 0 {
		return t, ""
	}
	return t, strings.Clone(n.Text)
}

// mapField answers the field of a map whose entries are of a type.
func (l *lowering) mapField(n api.Node, typeName string, path ...int) api.Field {
	f := api.Field{
		Name:     strings.Clone(n.Text),
		Number:   n.N,
		Label:    api.LabelRepeated,
		Type:     api.TMessage,
		TypeName: typeName,
	}
	return l.optioned(n, f, path...)
}

// entryOf answers the message that a map's entries are of.
func entryOf(n api.Node) api.Message {
	return api.Message{
		Name:    names.Entry(n.Text),
		Fields:  []api.Field{entryField("key", 1, n.Kids[0]), entryField("value", 2, n.Kids[1])},
		Options: []byte{0x38, 0x01}, // map_entry, which says that it is such a message
	}
}

func entryField(name string, number int64, of api.Node) api.Field {
	f := api.Field{Name: name, Number: number, Label: api.LabelOptional, Json: names.Json(name)}
	f.Type, f.TypeName = typeOf(of)
	return f
}

// optioned answers f with what its options say of itself, and lays down the others.
func (l *lowering) optioned(n api.Node, f api.Field, path ...int) api.Field {
	if f.Extendee == "" {
		f.Json = names.Json(n.Text)
	}
	named := false
	for _, option := range node.Of(n, api.KOption) {
		switch wordOf(option) {
		case "default":
			f.Default, f.Has = defaultOf(option, f), true
		case "json_name":
			f.Json, named = jsonOf(option, f, named), true
		default:
			l.askOne(option, "Field", path...)
		}
	}
	return f
}

// wordOf answers the name of an option whose name is one word, without brackets.
func wordOf(option api.Node) string {
	if len(option.Kids) == 2 && option.Kids[0].A == 0 {
		return option.Kids[0].Text
	}
	return ""
}

// defaultOf answers the default that an option gives a field. What is no default is told ahead of what is there twice.
func defaultOf(option api.Node, f api.Field) string {
	text, is := Default(f.Type, option.Kids[1])
	if !is || f.Label == api.LabelRepeated {
		panic(fault{option.At, api.ErrDefault})
	}
	if f.Has {
		panic(fault{option.At, api.ErrTwice})
	}
	return text
}

// jsonOf answers the name that an option gives a field in JSON; named says that it has got one already.
func jsonOf(option api.Node, f api.Field, named bool) string {
	worth := option.Kids[1]
	if worth.Kind != api.KString || f.Extendee != "" {
		panic(fault{option.At, api.ErrDefault})
	}
	if named {
		panic(fault{option.At, api.ErrTwice})
	}
	return strings.Clone(worth.Text)
}
