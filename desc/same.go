package desc

import (
	"bytes"
	"slices"

	"glossary/api"
)

func sameFile(a, b api.File) bool {
	return a.Name == b.Name && a.Package == b.Package && a.Syntax == b.Syntax &&
		slices.Equal(a.Deps, b.Deps) &&
		slices.Equal(a.Public, b.Public) &&
		slices.EqualFunc(a.Messages, b.Messages, sameMessage) &&
		slices.EqualFunc(a.Enums, b.Enums, sameEnum) &&
		slices.EqualFunc(a.Services, b.Services, sameService) &&
		slices.EqualFunc(a.Extends, b.Extends, sameField) &&
		bytes.Equal(a.Options, b.Options) && bytes.Equal(a.Unknown, b.Unknown)
}

func sameMessage(a, b api.Message) bool {
	return a.Name == b.Name &&
		slices.EqualFunc(a.Fields, b.Fields, sameField) &&
		slices.EqualFunc(a.Nested, b.Nested, sameMessage) &&
		slices.EqualFunc(a.Enums, b.Enums, sameEnum) &&
		slices.Equal(a.Ranges, b.Ranges) &&
		slices.EqualFunc(a.Extends, b.Extends, sameField) &&
		slices.EqualFunc(a.Oneofs, b.Oneofs, sameOneof) &&
		slices.Equal(a.Reserved, b.Reserved) &&
		slices.Equal(a.Words, b.Words) &&
		bytes.Equal(a.Options, b.Options) && bytes.Equal(a.Unknown, b.Unknown)
}

func sameField(a, b api.Field) bool {
	return a.Name == b.Name && a.Number == b.Number && a.Label == b.Label &&
		a.Type == b.Type && a.TypeName == b.TypeName && a.Extendee == b.Extendee &&
		a.Default == b.Default && a.Has == b.Has &&
		a.Oneof == b.Oneof && a.Json == b.Json && a.Optional == b.Optional &&
		bytes.Equal(a.Options, b.Options) && bytes.Equal(a.Unknown, b.Unknown)
}

func sameOneof(a, b api.Oneof) bool {
	return a.Name == b.Name && bytes.Equal(a.Options, b.Options) && bytes.Equal(a.Unknown, b.Unknown)
}

func sameEnum(a, b api.Enum) bool {
	return a.Name == b.Name && slices.EqualFunc(a.Values, b.Values, sameValue) &&
		bytes.Equal(a.Options, b.Options) && bytes.Equal(a.Unknown, b.Unknown)
}

func sameValue(a, b api.Value) bool {
	return a.Name == b.Name && a.Number == b.Number &&
		bytes.Equal(a.Options, b.Options) && bytes.Equal(a.Unknown, b.Unknown)
}

func sameService(a, b api.Service) bool {
	return a.Name == b.Name && slices.EqualFunc(a.Methods, b.Methods, sameMethod) &&
		bytes.Equal(a.Options, b.Options) && bytes.Equal(a.Unknown, b.Unknown)
}

func sameMethod(a, b api.Method) bool {
	return a.Name == b.Name && a.In == b.In && a.Out == b.Out && a.Client == b.Client && a.Server == b.Server &&
		bytes.Equal(a.Options, b.Options) && bytes.Equal(a.Unknown, b.Unknown)
}
