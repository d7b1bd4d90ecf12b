package desc

import (
	"glossary/api"
	"glossary/wire"
)

// lay puts a field of that number behind those that a part has already. A worth is an api.Raw without a number.
type lay func(num int, worth api.Raw)

// part answers, as a worth, the fields that it is put together of, and behind them what nobody knows.
func part(unknown []byte, fields func(put lay)) api.Raw {
	var b []byte
	fields(func(num int, worth api.Raw) {
		worth.Num = num
		// All numbers and kinds here are such as wire takes: it has no error to tell.
		field, _ := wire.Put(worth)
		b = append(b, field...)
	})
	return raw(append(b, unknown...))
}

// some puts a worth, unless it is zero.
func some(put lay, num int, worth api.Raw) {
	if worth.N != 0 || len(worth.B) > 0 {
		put(num, worth)
	}
}

// each puts all items of a list, those that are zero too: how many there are must be told.
func each[T any](put lay, num int, items []T, worth func(item T) api.Raw) {
	for _, item := range items {
		put(num, worth(item))
	}
}

// number answers the worth of a whole number; what is below 0 takes its place from 2^64 down.
func number[T int | int64](n T) api.Raw {
	return api.Raw{Kind: api.WireVarint, N: uint64(n)}
}

func truth(is bool) api.Raw {
	if is {
		return number(1)
	}
	return number(0)
}

func text(s string) api.Raw {
	return raw([]byte(s))
}

func raw(b []byte) api.Raw {
	return api.Raw{Kind: api.WireLen, B: b}
}

func file(f api.File) api.Raw {
	return part(f.Unknown, func(put lay) {
		some(put, 1, text(f.Name))
		some(put, 2, text(f.Package))
		each(put, 3, f.Deps, text)
		each(put, 4, f.Messages, message)
		each(put, 5, f.Enums, enum)
		each(put, 6, f.Services, service)
		each(put, 7, f.Extends, field)
		some(put, 8, raw(f.Options))
		each(put, 10, f.Public, number[int])
		some(put, 12, text(f.Syntax))
	})
}

func message(m api.Message) api.Raw {
	return part(m.Unknown, func(put lay) {
		some(put, 1, text(m.Name))
		each(put, 2, m.Fields, field)
		each(put, 3, m.Nested, message)
		each(put, 4, m.Enums, enum)
		each(put, 5, m.Ranges, span)
		each(put, 6, m.Extends, field)
		some(put, 7, raw(m.Options))
		each(put, 8, m.Oneofs, oneof)
		each(put, 9, m.Reserved, span)
		each(put, 10, m.Words, text)
	})
}

func field(f api.Field) api.Raw {
	return part(f.Unknown, func(put lay) {
		some(put, 1, text(f.Name))
		some(put, 2, text(f.Extendee))
		some(put, 3, number(f.Number))
		some(put, 4, number(f.Label))
		some(put, 5, number(f.Type))
		some(put, 6, text(f.TypeName))
		if f.Has || f.Default != "" {
			put(7, text(f.Default))
		}
		some(put, 8, raw(f.Options))
		if f.Oneof != 0 {
			put(9, number(int64(f.Oneof)-1))
		}
		some(put, 10, text(f.Json))
		some(put, 17, truth(f.Optional))
	})
}

func span(r api.Range) api.Raw {
	return part(nil, func(put lay) {
		put(1, number(r.From))
		put(2, number(r.To+1)) // wraps round, as it is asked
	})
}

func oneof(o api.Oneof) api.Raw {
	return part(o.Unknown, func(put lay) {
		some(put, 1, text(o.Name))
		some(put, 2, raw(o.Options))
	})
}

func enum(e api.Enum) api.Raw {
	return part(e.Unknown, func(put lay) {
		some(put, 1, text(e.Name))
		each(put, 2, e.Values, value)
		some(put, 3, raw(e.Options))
	})
}

func value(v api.Value) api.Raw {
	return part(v.Unknown, func(put lay) {
		some(put, 1, text(v.Name))
		put(2, number(v.Number))
		some(put, 3, raw(v.Options))
	})
}

func service(s api.Service) api.Raw {
	return part(s.Unknown, func(put lay) {
		some(put, 1, text(s.Name))
		each(put, 2, s.Methods, method)
		some(put, 3, raw(s.Options))
	})
}

func method(m api.Method) api.Raw {
	return part(m.Unknown, func(put lay) {
		some(put, 1, text(m.Name))
		some(put, 2, text(m.In))
		some(put, 3, text(m.Out))
		some(put, 4, raw(m.Options))
		some(put, 5, truth(m.Client))
		some(put, 6, truth(m.Server))
	})
}
