package encode_test

import (
	"encoding/binary"
	"slices"
	"sort"
	"strings"

	"glossary/api"
)

// rows are how each type is written, as the chapter has it: a varint, one of the number's Zig, eight bytes, four bytes.
const rows = "1 eight, 2 four, 3 varint, 4 varint, 5 varint, 6 eight, 7 four, 8 varint, 13 varint, 14 varint, 15 four, 16 eight, 17 zig, 18 zig"

// laid answers the bytes of a worth without its tag, and its kind.
func laid(kind int, v api.Val) (string, int) {
	for row := range strings.SplitSeq(rows, ", ") {
		number, way, _ := strings.Cut(row, " ")
		if number != decimal(kind) {
			continue
		}
		switch way {
		case "varint":
			return string(binary.AppendUvarint(nil, v.N)), api.WireVarint
		case "zig":
			return string(binary.AppendVarint(nil, int64(v.N))), api.WireVarint
		case "eight":
			return string(binary.LittleEndian.AppendUint64(nil, v.N)), api.WireI64
		case "four":
			return string(binary.LittleEndian.AppendUint32(nil, uint32(v.N))), api.WireI32
		}
	}
	return "", api.WireLen
}

func decimal(n int) string {
	if n < 0 || n > 99 {
		return "none"
	}
	if n < 10 {
		return string(rune('0' + n))
	}
	return decimal(n/10) + decimal(n%10)
}

// tag answers that of a field.
func tag(num, kind int) string {
	return string(binary.AppendUvarint(nil, uint64(num)<<3|uint64(kind)))
}

// within answers a field of WireLen.
func within(num int, bytes string) string {
	return tag(num, api.WireLen) + string(binary.AppendUvarint(nil, uint64(len(bytes)))) + bytes
}

// world is all messages, enums and extensions of files.
type world []part

// part is what has a full name, and the file in which it is.
type part struct {
	full string
	what any
	file api.File
}

func worldOf(files []api.File) world {
	var l world
	for _, f := range files {
		var messages func(scope string, inner []api.Message, enums []api.Enum, extends []api.Field)
		messages = func(scope string, inner []api.Message, enums []api.Enum, extends []api.Field) {
			for _, m := range inner {
				l = append(l, part{join(scope, m.Name), m, f})
				messages(join(scope, m.Name), m.Nested, m.Enums, m.Extends)
			}
			for _, e := range enums {
				l = append(l, part{join(scope, e.Name), e, f})
			}
			for _, x := range extends {
				l = append(l, part{join(scope, x.Name), x, f})
			}
		}
		messages(f.Package, f.Messages, f.Enums, f.Extends)
	}
	return l
}

func join(scope, name string) string {
	return strings.TrimPrefix(scope+"."+name, ".")
}

func (w world) find(full string) part {
	for _, p := range w {
		if p.full == full {
			return p
		}
	}
	return part{}
}

// owned is a field, and the full name that tells its file.
type owned struct {
	api.Field
	owner string
}

// fields answers a message's fields and extensions, in their order.
func (w world) fields(full string) []owned {
	m, _ := w.find(full).what.(api.Message)
	var l, exts []owned
	for _, f := range m.Fields {
		l = append(l, owned{f, full})
	}
	for _, p := range w {
		if x, is := p.what.(api.Field); is && x.Extendee == "."+full {
			exts = append(exts, owned{x, p.full})
		}
	}
	sort.Slice(exts, func(i, k int) bool { return exts[i].owner < exts[k].owner })
	return append(l, exts...)
}

// packed answers whether a field's worths are written in one; Options are there as the sampler makes them.
func (w world) packed(f owned) bool {
	_, kind := laid(f.Type, api.Val{})
	if f.Label != api.LabelRepeated || kind == api.WireLen {
		return false
	}
	l := f.Options
	if at := slices.Index(l, 0x10); at >= 0 && len(l)%2 == 0 {
		return l[len(l)-1] != 0
	}
	return w.find(f.owner).file.Syntax == "proto3"
}

// bytes answers those of a message that fits.
func (w world) bytes(full string, m api.Msg) string {
	all := w.fields(full)
	var said strings.Builder
	for _, s := range m.Slots {
		f := all[slices.IndexFunc(all, func(f owned) bool { return f.Number == int64(s.Num) })]
		inOne := ""
		for _, v := range s.Vals {
			worth, kind := laid(f.Type, v)
			switch {
			case w.packed(f):
				inOne += worth
			case f.Type == api.TMessage:
				said.WriteString(within(s.Num, w.bytes(f.TypeName[1:], v.M)))
			case kind == api.WireLen:
				said.WriteString(within(s.Num, string(v.B)))
			default:
				said.WriteString(tag(s.Num, kind) + worth)
			}
		}
		if inOne != "" {
			said.WriteString(within(s.Num, inOne))
		}
	}
	return said.String() + string(m.Unknown)
}
