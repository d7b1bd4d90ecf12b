package value_test

import (
	"bytes"
	"encoding/binary"
	"reflect"
	"slices"
	"sort"
	"strings"

	"glossary/api"
	"glossary/pool"
)

// kinds is on which kind of field each type stands, and which numbers its worths are: of 64 bits, of 32 without or with sign, a truth, none.
const kinds = `
1 1 64
2 5 32
3 0 64
4 0 64
5 0 s32
6 1 64
7 5 32
8 0 truth
9 2 none
12 2 none
13 0 32
14 0 s32
15 5 s32
16 1 64
17 0 s32
18 0 64
`

// kindRow answers what the table says of a type: its kind, and its numbers; WireLen and nothing of one that isn't there.
func kindRow(kind int) (int, string) {
	for line := range strings.Lines(strings.TrimSpace(kinds)) {
		words := strings.Fields(line)
		if words[0] == decimal(kind) {
			return int(words[1][0] - '0'), words[2]
		}
	}
	return api.WireLen, ""
}

func decimal(n int) string {
	if n < 0 || n > 99 {
		return "none"
	}
	if n < 10 {
		return string(rune('0' + n))
	}
	return decimal(n/10) + decimal(n%10)
}

// put answers a field on the wire; of WireLen the number is its bytes.
func put(num, kind int, number uint64) string {
	b := binary.AppendUvarint(nil, uint64(num)<<3|uint64(kind))
	switch kind {
	case api.WireI64:
		b = binary.LittleEndian.AppendUint64(b, number)
	case api.WireI32:
		b = binary.LittleEndian.AppendUint32(b, uint32(number))
	case api.WireLen:
		within := binary.AppendUvarint(nil, number)
		b = append(append(b, byte(len(within))), within...)
	default:
		b = binary.AppendUvarint(b, number)
	}
	return string(b)
}

// raws answers the fields that bytes are, if they are what is written of these.
func raws(b []byte) ([]api.Raw, bool) {
	var l []api.Raw
	var again []byte
	for rest := b; len(rest) > 0; {
		tag, size := binary.Uvarint(rest)
		if size <= 0 || tag >= 1<<32 || tag < 8 {
			return nil, false
		}
		r := api.Raw{Num: int(tag / 8), Kind: int(tag % 8)}
		rest = rest[size:]
		again = binary.AppendUvarint(again, tag)
		width := map[int]int{api.WireI64: 8, api.WireI32: 4}[r.Kind]
		switch r.Kind {
		case api.WireVarint, api.WireLen:
			if r.N, size = binary.Uvarint(rest); size <= 0 {
				return nil, false
			}
			rest = rest[size:]
			again = binary.AppendUvarint(again, r.N)
			if r.Kind == api.WireVarint {
				break
			}
			if r.N > uint64(len(rest)) {
				return nil, false
			}
			width = int(r.N)
		case api.WireI64, api.WireI32:
		default:
			return nil, false
		}
		if len(rest) < width {
			return nil, false
		}
		again = append(again, rest[:width]...)
		rest = rest[width:]
		l = append(l, r)
	}
	return l, bytes.Equal(again, b)
}

// world is files, and all messages, enums, extensions in them.
type world struct {
	files []api.File
	parts []part
}

// part is what has a full name, and the file in which it is.
type part struct {
	full string
	what any
	file api.File
}

func worldOf(files []api.File) world {
	var l []part
	for _, f := range files {
		var messages func(scope string, inner []api.Message, enums []api.Enum, extends []api.Field)
		messages = func(scope string, inner []api.Message, enums []api.Enum, extends []api.Field) {
			full := func(name string) string { return strings.TrimPrefix(scope+"."+name, ".") }
			for _, m := range inner {
				l = append(l, part{full(m.Name), m, f})
				messages(full(m.Name), m.Nested, m.Enums, m.Extends)
			}
			for _, e := range enums {
				l = append(l, part{full(e.Name), e, f})
			}
			for _, x := range extends {
				l = append(l, part{full(x.Name), x, f})
			}
		}
		messages(f.Package, f.Messages, f.Enums, f.Extends)
	}
	return world{files, l}
}

func (w world) find(full string) part {
	for _, p := range w.parts {
		if p.full == full {
			return p
		}
	}
	return part{}
}

// proto3 answers whether what has a full name is of a proto3 file: the first of that file's Name.
func (w world) proto3(full string) bool {
	p := w.find(full)
	for _, f := range w.files {
		if p.what != nil && f.Name == p.file.Name {
			return f.Syntax == "proto3"
		}
	}
	return false
}

// owned is a field, and the full name that tells its file.
type owned struct {
	api.Field
	owner string
}

// fields answers a message's fields and extensions, in their order.
func (w world) fields(full string) ([]owned, bool) {
	m, is := w.find(full).what.(api.Message)
	if !is {
		return nil, false
	}
	var l, exts []owned
	for _, f := range m.Fields {
		l = append(l, owned{f, full})
	}
	for _, p := range w.parts {
		if x, is := p.what.(api.Field); is && x.Extendee == "."+full {
			exts = append(exts, owned{x, p.full})
		}
	}
	sort.Slice(exts, func(i, k int) bool { return exts[i].owner < exts[k].owner })
	l = append(l, exts...)
	sort.SliceStable(l, func(i, k int) bool { return l[i].Number < l[k].Number })
	return l, true
}

// typed answers what a field's type is.
func (w world) typed(f owned) (string, any) {
	name := f.TypeName
	if name == "" || name[0] != '.' {
		return "", nil
	}
	return name[1:], w.find(name[1:]).what
}

// depth answers how many messages stand within one another.
func depth(m api.Msg) int {
	deepest := 0
	for _, s := range m.Slots {
		for _, v := range s.Vals {
			if len(v.M.Slots)+len(v.M.Unknown) > 0 {
				deepest = max(deepest, depth(v.M))
			}
		}
	}
	return deepest + 1
}

// plain answers whether a worth is one of a type.
func plain(kind int, v api.Val) bool {
	if len(v.M.Slots)+len(v.M.Unknown) > 0 {
		return false
	}
	_, numbers := kindRow(kind)
	switch numbers {
	case "64":
	case "32":
		return len(v.B) == 0 && uint64(uint32(v.N)) == v.N
	case "s32":
		return len(v.B) == 0 && uint64(int32(uint32(v.N))) == v.N
	case "truth":
		return len(v.B) == 0 && (v.N == 0 || v.N == 1)
	case "none":
		return v.N == 0
	}
	return numbers == "64" && len(v.B) == 0
}

// has answers whether a field's enum has a number, or may have any.
func (w world) has(f owned, number uint64) bool {
	full, what := w.typed(f)
	if full != "" && w.proto3(full) {
		return true
	}
	e, _ := what.(api.Enum)
	return slices.ContainsFunc(e.Values, func(v api.Value) bool { return uint64(v.Number) == number })
}

// wrong answers why a message isn't one of that full name; nothing, if it is.
func (w world) wrong(full string, m api.Msg) string {
	all, is := w.fields(full)
	if !is {
		return "no message"
	}
	if depth(m) > 64 {
		return "too deep"
	}
	first := map[int64]owned{}
	for _, f := range slices.Backward(all) {
		first[f.Number] = f
	}
	count := map[int64]int{}
	oneofs := map[int]int{}
	for i, s := range m.Slots {
		f, is := first[int64(s.Num)]
		if !is {
			return "no field"
		}
		if i > 0 && m.Slots[i-1].Num >= s.Num {
			return "not rising"
		}
		count[f.Number]++
		oneofs[f.Oneof]++
		if why := w.wrongSlot(f, s); why != "" {
			return why
		}
	}
	for _, f := range first {
		if f.Label == api.LabelRequired && count[f.Number] == 0 {
			return "required"
		}
		if f.Oneof != 0 && oneofs[f.Oneof] > 1 {
			return "oneof"
		}
	}
	return w.wrongUnknown(first, m.Unknown)
}

func (w world) wrongSlot(f owned, s api.Slot) string {
	if len(s.Vals) == 0 || len(s.Vals) > 1 && f.Label != api.LabelRepeated {
		return "count"
	}
	full, what := w.typed(f)
	if of, is := what.(api.Message); is && f.Type == api.TMessage && pool.Entry(of) {
		for i := range s.Vals {
			for k := range i {
				if reflect.DeepEqual(keyOf(w, full, s.Vals[i].M), keyOf(w, full, s.Vals[k].M)) {
					return "key"
				}
			}
		}
	}
	for _, v := range s.Vals {
		switch {
		case f.Type == api.TMessage && v.N == 0 && len(v.B) == 0:
			if _, is := what.(api.Message); !is {
				return "no type"
			}
			if why := w.wrong(full, v.M); why != "" {
				return why
			}
		case !plain(f.Type, v):
			return "worth"
		case f.Type == api.TString && w.proto3(f.owner) && !bytes.Equal([]byte(string([]rune(string(v.B)))), v.B):
			return "text"
		case f.Type == api.TEnum && !w.has(f, v.N):
			return "enum"
		}
	}
	return ""
}

// keyOf answers the worths of an entry's key.
func keyOf(w world, full string, m api.Msg) []api.Val {
	all, _ := w.fields(full)
	for i, f := range all {
		if f.Name != "key" || f.owner != full || i > 0 && all[i-1].Number == f.Number {
			continue
		}
		for _, s := range m.Slots {
			if int64(s.Num) == f.Number && len(s.Vals) > 0 {
				return even(api.Msg{Slots: []api.Slot{s}}).Slots[0].Vals
			}
		}
	}
	return []api.Val{{}}
}

// even answers a message in which what is empty is nil.
func even(m api.Msg) api.Msg {
	own := api.Msg{Unknown: append([]byte(nil), m.Unknown...)}
	for _, s := range m.Slots {
		one := api.Slot{Num: s.Num}
		for _, v := range s.Vals {
			one.Vals = append(one.Vals, api.Val{N: v.N, B: append([]byte(nil), v.B...), M: even(v.M)})
		}
		own.Slots = append(own.Slots, one)
	}
	return own
}

func (w world) wrongUnknown(first map[int64]owned, b []byte) string {
	l, is := raws(b)
	if !is {
		return "bytes"
	}
	for _, r := range l {
		f, is := first[int64(r.Num)]
		kind, _ := kindRow(f.Type)
		switch {
		case !is:
		case r.Kind != kind && !(f.Label == api.LabelRepeated && r.Kind == api.WireLen):
		case f.Type == api.TEnum && r.Kind == api.WireVarint && plain(api.TEnum, api.Val{N: r.N}) && !w.has(f, r.N):
		default:
			return "known"
		}
	}
	return ""
}

// packed answers whether a field is written in one.
func (w world) packed(full string, f api.Field) bool {
	kind, _ := kindRow(f.Type)
	if f.Label != api.LabelRepeated || kind == api.WireLen {
		return false
	}
	said := w.proto3(full)
	if l, is := raws(f.Options); is {
		for _, r := range l {
			if r.Num == 2 && r.Kind == api.WireVarint {
				said = r.N != 0
			}
		}
	}
	return said
}
