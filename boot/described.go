package boot

import (
	"strconv"
	"strings"

	"glossary/api"
)

const firstExtension = 1000

// described answers a message's description.
func (m message) described() api.Message {
	d := api.Message{Name: m.name}
	for _, f := range m.fields {
		d.Fields = append(d.Fields, f.described())
	}
	if m.extended {
		d.Ranges = []api.Range{{From: firstExtension, To: api.MaxField}}
	}
	return d
}

func (f field) described() api.Field {
	// The table has no number that is none.
	number, _ := strconv.ParseInt(f.number, 10, 64)
	d := api.Field{Name: f.name, Number: number, Label: api.LabelOptional, Type: plain(f.typed), Json: json(f.name)}
	if f.label == repeated {
		d.Label = api.LabelRepeated
	}
	if d.Type == 0 {
		d.Type, d.TypeName = api.TMessage, dot+pack+dot+f.typed
	}
	return d
}

// plain answers the type of a plain type's word, as far as the table has it; 0 of a message's name.
func plain(word string) int {
	switch word {
	case "int64":
		return api.TInt64
	case "int32":
		return api.TInt32
	case "bool":
		return api.TBool
	case "string":
		return api.TString
	}
	return 0
}

// json answers the name that lower gives to a field of a name. (The table has none with a `_` at an end, or with two together.)
func json(name string) string {
	parts := strings.Split(name, "_")
	for i := 1; i < len(parts); i++ {
		parts[i] = strings.ToUpper(parts[i][:1]) + parts[i][1:]
	}
	return strings.Join(parts, "")
}

// written answers a message's lines in a source.
func (m message) written() string {
	s := "message " + m.name + " {\n"
	for _, f := range m.fields {
		s += "  " + f.label + " " + f.typed + " " + f.name + " = " + f.number + ";\n"
	}
	if m.extended {
		s += "  extensions " + strconv.Itoa(firstExtension) + " to max;\n"
	}
	return s + "}\n"
}
