package check

import (
	"slices"

	"glossary/api"
	"glossary/lower"
	"glossary/names"
)

// The numbers that no field may have, though they are within the bounds.
const (
	firstKept = 19000
	lastKept  = 19999
)

// fields holds the rules of a message's fields.
func (c *checking) fields(m *message) {
	set := numbersOf(slices.Concat(m.Ranges, m.Reserved))
	met, jsons := taken[int64]{}, taken[string]{}
	for _, f := range m.Fields {
		own := of(m.full, f.Name)
		own.keeps(8, names.Ident(f.Name) && !m.words.has(f.Name))
		own.keeps(9, isFieldNumber(f.Number) && !set.has(f.Number) && met.take(f.Number))
		own.keeps(10, c.labelFits(f) && f.Extendee == "")
		c.typed(own, f)
		own.keeps(13, c.oneofFits(f, m))
		own.keeps(14, f.Json != "" && jsons.take(f.Json))
		own.keeps(17, !c.isOfEntry(f) || m.isMap(f))
	}
}

func isFieldNumber(n int64) bool {
	return 1 <= n && n <= api.MaxField && (n < firstKept || n > lastKept)
}

func (c *checking) labelFits(f api.Field) bool {
	switch f.Label {
	case api.LabelOptional, api.LabelRepeated:
		return true
	case api.LabelRequired:
		return !c.proto3
	}
	return false
}

// typed holds the rules of the type and the default of a field, or of an extension.
func (c *checking) typed(own part, f api.Field) {
	own.keeps(11, c.typeFits(f))
	own.keeps(12, c.defaultFits(f))
}

func (c *checking) typeFits(f api.Field) bool {
	switch f.Type {
	case api.TMessage:
		_, is := c.find(f.TypeName, api.SymMessage)
		return is
	case api.TEnum:
		enum, is := c.find(f.TypeName, api.SymEnum)
		return is && (enum.proto3 || !c.proto3)
	}
	return lower.Plain(f.Type) != "" && f.TypeName == ""
}

func (c *checking) defaultFits(f api.Field) bool {
	if !f.Has {
		return f.Default == ""
	}
	if f.Label != api.LabelOptional || c.proto3 || !Default(f.Type, f.Default) {
		return false
	}
	if f.Type != api.TEnum {
		return true
	}
	enum, _ := c.find(f.TypeName, api.SymEnum)
	return enum.values.has(f.Default)
}

// oneofFits answers whether a field has a oneof that there is, and an Optional one a oneof for itself.
func (c *checking) oneofFits(f api.Field, m *message) bool {
	if f.Oneof == 0 {
		return !f.Optional
	}
	if f.Oneof < 1 || f.Oneof > len(m.Oneofs) || f.Label != api.LabelOptional {
		return false
	}
	return !f.Optional || c.proto3 && m.members[f.Oneof] == 1
}

// isOfEntry answers whether a field's type is a map's entry.
func (c *checking) isOfEntry(f api.Field) bool {
	if f.Type != api.TMessage {
		return false
	}
	typed, is := c.find(f.TypeName, api.SymMessage)
	return is && typed.entry
}

// isMap answers whether a field whose type is a map's entry is that map: the entry stands in the field's message, under the name that the field's asks for.
func (m *message) isMap(f api.Field) bool {
	entry := names.Entry(f.Name)
	return f.Label == api.LabelRepeated && m.nested.has(entry) && f.TypeName == dot+names.Join(m.full, entry)
}

// extension is a number that is taken in the message that is extended.
type extension struct {
	of     string
	number int64
}

// extends holds the rules of extensions.
func (c *checking) extends(l []api.Field, scope string) {
	for _, f := range l {
		own := of(scope, f.Name)
		c.typed(own, f)
		own.keeps(17, !c.isOfEntry(f))
		own.keeps(20, names.Ident(f.Name) && len(own) <= maxName && isPlainExtension(f))
		extended, is := c.find(f.Extendee, api.SymMessage)
		own.keeps(21, is && extended.ranges.has(f.Number) && c.extensions.take(extension{f.Extendee, f.Number}))
	}
}

// isPlainExtension answers whether an extension has nothing that is for fields alone.
func isPlainExtension(f api.Field) bool {
	return (f.Label == api.LabelOptional || f.Label == api.LabelRepeated) && f.Oneof == 0 && !f.Optional && f.Json == ""
}
