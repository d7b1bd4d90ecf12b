package undesc

import "glossary/api"

// reader reads each kind of part from its bytes.
type reader struct {
	deep int // how many messages the part stands in
}

func (r reader) set(b []byte) []api.File {
	var l []api.File
	rest(b, func(f api.Raw) bool {
		return f.Num == 1 && item(f, &l, r.file)
	})
	return l
}

func (r reader) file(b []byte) api.File {
	var file api.File
	file.Unknown = rest(b, func(f api.Raw) bool {
		switch f.Num {
		case 1:
			return block(f, &file.Name, text)
		case 2:
			return block(f, &file.Package, text)
		case 3:
			return item(f, &file.Deps, text)
		case 4:
			return item(f, &file.Messages, r.message)
		case 5:
			return item(f, &file.Enums, r.enum)
		case 6:
			return item(f, &file.Services, r.service)
		case 7:
			return item(f, &file.Extends, r.field)
		case 8:
			return block(f, &file.Options, raw)
		case 10:
			var place int
			if number(f, &place, small) {
				file.Public = append(file.Public, place)
				return true
			}
		case 12:
			return block(f, &file.Syntax, text)
		}
		return false
	})
	return file
}

func (r reader) message(b []byte) api.Message {
	if r.deep == api.MaxDeep {
		panic(fault{api.ErrLong})
	}
	r.deep++
	var m api.Message
	m.Unknown = rest(b, func(f api.Raw) bool {
		switch f.Num {
		case 1:
			return block(f, &m.Name, text)
		case 2:
			return item(f, &m.Fields, r.field)
		case 3:
			return item(f, &m.Nested, r.message)
		case 4:
			return item(f, &m.Enums, r.enum)
		case 5:
			return item(f, &m.Ranges, r.span)
		case 6:
			return item(f, &m.Extends, r.field)
		case 7:
			return block(f, &m.Options, raw)
		case 8:
			return item(f, &m.Oneofs, r.oneof)
		case 9:
			return item(f, &m.Reserved, r.span)
		case 10:
			return item(f, &m.Words, text)
		}
		return false
	})
	return m
}

func (r reader) field(b []byte) api.Field {
	var field api.Field
	oneof := -1 // on the wire they are counted from 0 on
	field.Unknown = rest(b, func(f api.Raw) bool {
		switch f.Num {
		case 1:
			return block(f, &field.Name, text)
		case 2:
			return block(f, &field.Extendee, text)
		case 3:
			return number(f, &field.Number, whole)
		case 4:
			return number(f, &field.Label, small)
		case 5:
			return number(f, &field.Type, small)
		case 6:
			return block(f, &field.TypeName, text)
		case 7:
			if block(f, &field.Default, text) {
				field.Has = true
				return true
			}
		case 8:
			return block(f, &field.Options, raw)
		case 9:
			return number(f, &oneof, small)
		case 10:
			return block(f, &field.Json, text)
		case 17:
			return number(f, &field.Optional, truth)
		}
		return false
	})
	field.Oneof = oneof + 1
	return field
}

// span reads a range, which has no room for what nobody knows.
func (r reader) span(b []byte) api.Range {
	var from, behind int64
	rest(b, func(f api.Raw) bool {
		switch f.Num {
		case 1:
			return number(f, &from, whole)
		case 2:
			return number(f, &behind, whole)
		}
		return false
	})
	return api.Range{From: from, To: behind - 1} // wraps round, as it is asked
}

func (r reader) oneof(b []byte) api.Oneof {
	var o api.Oneof
	o.Unknown = rest(b, func(f api.Raw) bool {
		switch f.Num {
		case 1:
			return block(f, &o.Name, text)
		case 2:
			return block(f, &o.Options, raw)
		}
		return false
	})
	return o
}

func (r reader) enum(b []byte) api.Enum {
	var e api.Enum
	e.Unknown = rest(b, func(f api.Raw) bool {
		switch f.Num {
		case 1:
			return block(f, &e.Name, text)
		case 2:
			return item(f, &e.Values, r.value)
		case 3:
			return block(f, &e.Options, raw)
		}
		return false
	})
	return e
}

func (r reader) value(b []byte) api.Value {
	var v api.Value
	v.Unknown = rest(b, func(f api.Raw) bool {
		switch f.Num {
		case 1:
			return block(f, &v.Name, text)
		case 2:
			return number(f, &v.Number, whole)
		case 3:
			return block(f, &v.Options, raw)
		}
		return false
	})
	return v
}

func (r reader) service(b []byte) api.Service {
	var s api.Service
	s.Unknown = rest(b, func(f api.Raw) bool {
		switch f.Num {
		case 1:
			return block(f, &s.Name, text)
		case 2:
			return item(f, &s.Methods, r.method)
		case 3:
			return block(f, &s.Options, raw)
		}
		return false
	})
	return s
}

func (r reader) method(b []byte) api.Method {
	var m api.Method
	m.Unknown = rest(b, func(f api.Raw) bool {
		switch f.Num {
		case 1:
			return block(f, &m.Name, text)
		case 2:
			return block(f, &m.In, text)
		case 3:
			return block(f, &m.Out, text)
		case 4:
			return block(f, &m.Options, raw)
		case 5:
			return number(f, &m.Client, truth)
		case 6:
			return number(f, &m.Server, truth)
		}
		return false
	})
	return m
}
