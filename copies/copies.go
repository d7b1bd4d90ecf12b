// Package copies makes copies of descriptions and of their parts that share no memory with them.
package copies

import (
	"bytes"
	"strings"

	"glossary/api"
)

// Way is how a copy is made.
type Way struct {
	Levels int  // how many messages may stand within one another; those that are deeper are left out
	Clean  bool // whether Unknown is left out, in all parts
}

// each answers what change makes of the items, in a list of its own.
func each[T any](l []T, change func(item T) T) []T {
	var own []T
	for _, item := range l {
		own = append(own, change(item))
	}
	return own
}

func same[T int | api.Range](item T) T {
	return item
}

// File answers a copy of a file.
func (w Way) File(f api.File) api.File {
	return api.File{
		Name:     strings.Clone(f.Name),
		Package:  strings.Clone(f.Package),
		Deps:     Texts(f.Deps),
		Public:   Places(f.Public),
		Messages: w.messages(f.Messages),
		Enums:    each(f.Enums, w.Enum),
		Services: each(f.Services, w.service),
		Extends:  each(f.Extends, w.Field),
		Syntax:   strings.Clone(f.Syntax),
		Options:  bytes.Clone(f.Options),
		Unknown:  w.unknown(f.Unknown),
	}
}

// Texts answers a copy of a list of texts.
func Texts(l []string) []string {
	return each(l, strings.Clone)
}

// Places answers a copy of a list of places.
func Places(l []int) []int {
	return each(l, same)
}

func (w Way) messages(l []api.Message) []api.Message {
	if w.Levels < 1 {
		return nil
	}
	return each(l, w.Message)
}

// Message answers a copy of a message, which is itself the first level.
func (w Way) Message(m api.Message) api.Message {
	within := Way{Levels: w.Levels - 1, Clean: w.Clean}
	return api.Message{
		Name:     strings.Clone(m.Name),
		Fields:   each(m.Fields, w.Field),
		Nested:   within.messages(m.Nested),
		Enums:    each(m.Enums, w.Enum),
		Ranges:   each(m.Ranges, same),
		Extends:  each(m.Extends, w.Field),
		Oneofs:   each(m.Oneofs, w.oneof),
		Reserved: each(m.Reserved, same),
		Words:    Texts(m.Words),
		Options:  bytes.Clone(m.Options),
		Unknown:  w.unknown(m.Unknown),
	}
}

// Field answers a copy of a field, or of an extension.
func (w Way) Field(f api.Field) api.Field {
	return api.Field{
		Name:     strings.Clone(f.Name),
		Number:   f.Number,
		Label:    f.Label,
		Type:     f.Type,
		TypeName: strings.Clone(f.TypeName),
		Extendee: strings.Clone(f.Extendee),
		Default:  strings.Clone(f.Default),
		Has:      f.Has,
		Oneof:    f.Oneof,
		Json:     strings.Clone(f.Json),
		Optional: f.Optional,
		Options:  bytes.Clone(f.Options),
		Unknown:  w.unknown(f.Unknown),
	}
}

func (w Way) oneof(o api.Oneof) api.Oneof {
	return api.Oneof{Name: strings.Clone(o.Name), Options: bytes.Clone(o.Options), Unknown: w.unknown(o.Unknown)}
}

// Enum answers a copy of an enum.
func (w Way) Enum(e api.Enum) api.Enum {
	return api.Enum{
		Name:    strings.Clone(e.Name),
		Values:  each(e.Values, w.value),
		Options: bytes.Clone(e.Options),
		Unknown: w.unknown(e.Unknown),
	}
}

func (w Way) value(v api.Value) api.Value {
	return api.Value{
		Name:    strings.Clone(v.Name),
		Number:  v.Number,
		Options: bytes.Clone(v.Options),
		Unknown: w.unknown(v.Unknown),
	}
}

func (w Way) service(s api.Service) api.Service {
	return api.Service{
		Name:    strings.Clone(s.Name),
		Methods: each(s.Methods, w.method),
		Options: bytes.Clone(s.Options),
		Unknown: w.unknown(s.Unknown),
	}
}

func (w Way) method(m api.Method) api.Method {
	return api.Method{
		Name:    strings.Clone(m.Name),
		In:      strings.Clone(m.In),
		Out:     strings.Clone(m.Out),
		Client:  m.Client,
		Server:  m.Server,
		Options: bytes.Clone(m.Options),
		Unknown: w.unknown(m.Unknown),
	}
}

func (w Way) unknown(b []byte) []byte {
	if w.Clean {
		return nil
	}
	return bytes.Clone(b)
}
