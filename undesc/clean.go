package undesc

import (
	"bytes"
	"slices"
	"strings"

	"glossary/api"
)

const (
	maxSize     = 1<<31 - 1 // the document promises nothing of an answer of more bytes
	messageSize = 256       // the bytes of a message without what it has
)

// fits answers whether the messages of so many levels are not more than one answer may have: where a list stands within itself more than once, there are more of them than anybody can copy. It goes no farther than to know.
func fits(l []api.Message, levels int) bool {
	size := 0
	var down func(l []api.Message, levels int) bool
	down = func(l []api.Message, levels int) bool {
		if levels == 0 {
			return true
		}
		size += messageSize * len(l)
		return size <= maxSize && !slices.ContainsFunc(l, func(m api.Message) bool {
			return !down(m.Nested, levels-1)
		})
	}
	return down(l, levels)
}

// each answers what clean makes of the items, in a list of its own.
func each[T any](l []T, clean func(item T) T) []T {
	var own []T
	for _, item := range l {
		own = append(own, clean(item))
	}
	return own
}

func same[T int | api.Range](item T) T {
	return item
}

func cleanFile(f api.File, levels int) api.File {
	return api.File{
		Name:     strings.Clone(f.Name),
		Package:  strings.Clone(f.Package),
		Deps:     each(f.Deps, strings.Clone),
		Public:   each(f.Public, same),
		Messages: cleanMessages(f.Messages, levels),
		Enums:    each(f.Enums, cleanEnum),
		Services: each(f.Services, cleanService),
		Extends:  each(f.Extends, cleanField),
		Syntax:   strings.Clone(f.Syntax),
		Options:  bytes.Clone(f.Options),
	}
}

// cleanMessages leaves out what stands in more than so many levels.
func cleanMessages(l []api.Message, levels int) []api.Message {
	if levels == 0 {
		return nil
	}
	return each(l, func(m api.Message) api.Message {
		return api.Message{
			Name:     strings.Clone(m.Name),
			Fields:   each(m.Fields, cleanField),
			Nested:   cleanMessages(m.Nested, levels-1),
			Enums:    each(m.Enums, cleanEnum),
			Ranges:   each(m.Ranges, same),
			Extends:  each(m.Extends, cleanField),
			Oneofs:   each(m.Oneofs, cleanOneof),
			Reserved: each(m.Reserved, same),
			Words:    each(m.Words, strings.Clone),
			Options:  bytes.Clone(m.Options),
		}
	})
}

func cleanField(f api.Field) api.Field {
	return api.Field{
		Name:     strings.Clone(f.Name),
		Number:   f.Number,
		Label:    f.Label,
		Type:     f.Type,
		TypeName: strings.Clone(f.TypeName),
		Extendee: strings.Clone(f.Extendee),
		Default:  strings.Clone(f.Default),
		Has:      f.Has,
		Oneof:    f.Oneof,
		Json:     strings.Clone(f.Json),
		Optional: f.Optional,
		Options:  bytes.Clone(f.Options),
	}
}

func cleanOneof(o api.Oneof) api.Oneof {
	return api.Oneof{Name: strings.Clone(o.Name), Options: bytes.Clone(o.Options)}
}

func cleanEnum(e api.Enum) api.Enum {
	return api.Enum{Name: strings.Clone(e.Name), Values: each(e.Values, cleanValue), Options: bytes.Clone(e.Options)}
}

func cleanValue(v api.Value) api.Value {
	return api.Value{Name: strings.Clone(v.Name), Number: v.Number, Options: bytes.Clone(v.Options)}
}

func cleanService(s api.Service) api.Service {
	return api.Service{Name: strings.Clone(s.Name), Methods: each(s.Methods, cleanMethod), Options: bytes.Clone(s.Options)}
}

func cleanMethod(m api.Method) api.Method {
	return api.Method{
		Name:    strings.Clone(m.Name),
		In:      strings.Clone(m.In),
		Out:     strings.Clone(m.Out),
		Client:  m.Client,
		Server:  m.Server,
		Options: bytes.Clone(m.Options),
	}
}
