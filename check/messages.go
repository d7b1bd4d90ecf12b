package check

import (
	"slices"

	"glossary/api"
	"glossary/names"
	"glossary/pool"
)

const maxAround = 15 // messages in which one may stand

// message is one whose rules are held: where it stands, and what its parts are counted by.
type message struct {
	api.Message
	full    string
	around  *message       // nil of one that stands in none
	deep    int            // in how many it stands
	words   taken[string]  // the reserved ones
	nested  taken[string]  // the names of its own messages
	members map[int]int    // how many fields each oneof has, by its number in fields
	typed   map[string]int // how many fields have a message as their type, by TypeName
}

func messageOf(m api.Message, scope string, around *message) *message {
	own := &message{Message: m, full: names.Join(scope, m.Name), around: around,
		words: taken[string]{}, nested: taken[string]{}, members: map[int]int{}, typed: map[string]int{}}
	if around != nil {
		own.deep = around.deep + 1
	}
	for _, word := range m.Words {
		own.words.take(word)
	}
	for _, inner := range m.Nested {
		own.nested.take(inner.Name)
	}
	for _, f := range m.Fields {
		own.members[f.Oneof]++
		if f.Type == api.TMessage {
			own.typed[f.TypeName]++
		}
	}
	return own
}

// message holds the rules of a message itself.
func (c *checking) message(m *message) {
	own := part(m.full)
	own.keeps(5, names.Ident(m.Name) && len(m.full) <= maxName && m.deep <= maxAround && m.wordsFit())
	own.keeps(6, rangesFit(slices.Concat(m.Ranges, m.Reserved)) && !(c.proto3 && len(m.Ranges) > 0))
	own.keeps(16, !pool.Entry(m.Message) || m.isEntryOfMap())
}

func (m *message) wordsFit() bool {
	for _, word := range m.Words {
		if !names.Ident(word) {
			return false
		}
	}
	return len(m.words) == len(m.Words)
}

// isEntryOfMap answers whether a message is as a map's entry must be.
func (m *message) isEntryOfMap() bool {
	if m.around == nil || !isKeyAndValue(m.Message) {
		return false
	}
	// That the one field has the label and the name that it must have, rule 17 has held already, with the fields of the message around.
	return m.around.typed[dot+m.full] == 1
}

// isKeyAndValue answers whether a message has what a map's entry has, and nothing else.
func isKeyAndValue(m api.Message) bool {
	others := len(m.Nested) + len(m.Enums) + len(m.Extends) + len(m.Oneofs) + len(m.Ranges) + len(m.Reserved) + len(m.Words)
	if len(m.Fields) != 2 || others > 0 {
		return false
	}
	key, value := m.Fields[0], m.Fields[1]
	return isEntryField(key, "key", 1) && isEntryField(value, "value", 2) && isKeyType(key.Type)
}

func isEntryField(f api.Field, name string, number int64) bool {
	return f.Name == name && f.Number == number && f.Label == api.LabelOptional && !f.Has && f.Oneof == 0
}

func isKeyType(t int) bool {
	switch t {
	case api.TDouble, api.TFloat, api.TBytes, api.TMessage, api.TEnum:
		return false
	}
	return true
}

// oneofs holds the rules of a message's oneofs.
func (m *message) oneofs() {
	for i, o := range m.Oneofs {
		of(m.full, o.Name).keeps(7, names.Ident(o.Name) && m.members[i+1] > 0)
	}
}
