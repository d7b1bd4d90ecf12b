package decode_test

import (
	"encoding/binary"
	"encoding/hex"
	"slices"
	"sort"
	"strings"
	"unicode/utf8"

	"glossary/api"
)

func hexOf(s string) string { return hex.EncodeToString([]byte(s)) }

// onWire is a field on the wire: its number, its kind, what it has.
type onWire struct {
	num  int
	kind int
	n    uint64
	b    string
}

// laid answers a field's bytes.
func (r onWire) laid() string {
	switch r.kind {
	case api.WireVarint:
		return uv(r.num, r.n)
	case api.WireI64:
		return i64(r.num, r.n)
	case api.WireI32:
		return i32(r.num, uint32(r.n))
	}
	return in(r.num, r.b)
}

// cutNumber answers the number at b's beginning, and what stands behind it; nothing where there is none.
func cutNumber(kind int, b string) (uint64, string, bool) {
	switch {
	case kind == api.WireVarint:
		if n, size := binary.Uvarint([]byte(b)); size > 0 {
			return n, b[size:], true
		}
	case kind == api.WireI64 && len(b) >= 8:
		return binary.LittleEndian.Uint64([]byte(b)), b[8:], true
	case kind == api.WireI32 && len(b) >= 4:
		return uint64(binary.LittleEndian.Uint32([]byte(b))), b[4:], true
	}
	return 0, "", false
}

// unlaid answers the number that bytes are.
func unlaid(kind int, b string) uint64 {
	n, _, _ := cutNumber(kind, b)
	return n
}

// onWires answers the fields that bytes are, or the error of the first that is none.
func onWires(b string) ([]onWire, api.Errno) {
	var l []onWire
	for b != "" {
		n, rest, is := cutNumber(api.WireVarint, b)
		if !is {
			return nil, api.ErrVarint
		}
		r := onWire{num: int(n >> 3), kind: int(n & 7)}
		if n>>32 > 0 || r.num == 0 || !slices.Contains([]int{0, 1, 2, 5}, r.kind) {
			return nil, api.ErrTag
		}
		kind := r.kind
		if kind == api.WireLen {
			kind = api.WireVarint
		}
		if r.n, b, is = cutNumber(kind, rest); !is && kind == api.WireVarint {
			return nil, api.ErrVarint
		}
		if !is || r.kind == api.WireLen && r.n > uint64(len(b)) {
			return nil, api.ErrWire
		}
		if r.kind == api.WireLen {
			r.b, b, r.n = b[:r.n], b[r.n:], 0
		}
		l = append(l, r)
	}
	return l, api.OK
}

// steps are on which kind each numeric type stands, and what is done to its numbers there.
var steps = map[int]string{1: "eight whole", 2: "four low", 3: "varint whole", 4: "varint whole", 5: "varint sign", 6: "eight whole", 7: "four low", 8: "varint truth",
	13: "varint low", 14: "varint sign", 15: "four sign", 16: "eight whole", 17: "varint zag sign", 18: "varint zag whole"}

// row answers a type's kind, -1 of one that isn't numeric, and what is done to its numbers.
func row(kind int) (int, string) {
	first, rest, is := strings.Cut(steps[kind], " ")
	if !is {
		return -1, ""
	}
	return map[string]int{"eight": api.WireI64, "four": api.WireI32, "varint": api.WireVarint}[first], rest
}

// worth answers what a type has for a number on the wire.
func worth(kind int, n uint64) api.Val {
	_, steps := row(kind)
	for step := range strings.FieldsSeq(steps) {
		switch step {
		case "zag":
			half := n / 2
			if n%2 == 1 {
				half = -half - 1
			}
			n = half
		case "low":
			n %= 1 << 32
		case "sign":
			if n %= 1 << 32; n >= 1<<31 {
				n -= 1 << 32
			}
		case "truth":
			n = map[bool]uint64{true: 1}[n > 0]
		}
	}
	return api.Val{N: n}
}

// world is all messages, enums and extensions of files.
type world struct {
	parts []part
	found map[string][]owned // messages' fields
}

// part is what has a full name, and the file in which it is.
type part struct {
	full string
	what any
	file api.File
}

func worldOf(files []api.File) world {
	var l []part
	for _, f := range files {
		var messages func(scope string, inner []api.Message, enums []api.Enum, extends []api.Field)
		messages = func(scope string, inner []api.Message, enums []api.Enum, extends []api.Field) {
			for _, m := range inner {
				l = append(l, part{join(scope, m.Name), m, f})
				messages(join(scope, m.Name), m.Nested, m.Enums, m.Extends)
			}
			for _, e := range enums {
				l = append(l, part{join(scope, e.Name), e, f})
			}
			for _, x := range extends {
				l = append(l, part{join(scope, x.Name), x, f})
			}
		}
		messages(f.Package, f.Messages, f.Enums, f.Extends)
	}
	return world{parts: l, found: map[string][]owned{}}
}

func join(scope, name string) string {
	return strings.TrimPrefix(scope+"."+name, ".")
}

func (w world) find(full string) part {
	for _, p := range w.parts {
		if p.full == full {
			return p
		}
	}
	return part{}
}

func (w world) proto3(full string) bool {
	return w.find(full).file.Syntax == "proto3"
}

// owned is a field, and the full name that tells its file.
type owned struct {
	api.Field
	owner string
}

// typed answers what a field's type is.
func (w world) typed(f owned) part {
	if !strings.HasPrefix(f.TypeName, ".") {
		return part{}
	}
	return w.find(f.TypeName[1:])
}

// fields answers a message's fields and extensions, the first of each number alone.
func (w world) fields(full string) []owned {
	if l, is := w.found[full]; is {
		return l
	}
	m, _ := w.find(full).what.(api.Message)
	var l, exts, firsts []owned
	for _, f := range m.Fields {
		l = append(l, owned{f, full})
	}
	for _, p := range w.parts {
		if x, is := p.what.(api.Field); is && x.Extendee == "."+full {
			exts = append(exts, owned{x, p.full})
		}
	}
	sort.Slice(exts, func(i, k int) bool { return exts[i].owner < exts[k].owner })
	for _, f := range append(l, exts...) {
		if !slices.ContainsFunc(firsts, func(first owned) bool { return first.Number == f.Number }) {
			firsts = append(firsts, f)
		}
	}
	w.found[full] = firsts
	return firsts
}

// numbered answers the field of a number.
func (w world) numbered(full string, num int) (owned, bool) {
	l := w.fields(full)
	at := slices.IndexFunc(l, func(f owned) bool { return f.Number == int64(num) })
	if at < 0 {
		return owned{}, false
	}
	return l[at], true
}

// taking answers the field that takes one on the wire.
func (w world) taking(full string, r onWire) (owned, bool) {
	f, is := w.numbered(full, r.num)
	if !is {
		return f, false
	}
	if kind, _ := row(f.Type); kind >= 0 {
		return f, r.kind == kind || r.kind == api.WireLen && f.Label == api.LabelRepeated
	}
	return f, r.kind == api.WireLen && slices.Contains([]int{api.TString, api.TBytes, api.TMessage}, f.Type)
}

// list answers the worths of a numeric type's field, and whether they are whole.
func list(f owned, r onWire) ([]api.Val, bool) {
	if r.kind != api.WireLen {
		return []api.Val{worth(f.Type, r.n)}, true
	}
	var l []api.Val
	kind, _ := row(f.Type)
	for rest := r.b; rest != ""; {
		n, behind, is := cutNumber(kind, rest)
		if !is {
			return nil, false
		}
		l, rest = append(l, worth(f.Type, n)), behind
	}
	return l, true
}

// wrongWithin answers the first error of a message that stands in others, down to how many there are, but for ErrRequired.
func (w world) wrongWithin(full, b string, levels int) api.Errno {
	if levels > 65 {
		return api.ErrLong
	}
	err := w.wrong(full, b, levels)
	if err == api.OK && levels == 65 && said(w.told(full, b)) != said(api.Msg{}) {
		err = api.ErrLong
	}
	return err
}

// wrong answers the first error of bytes, but for ErrRequired.
func (w world) wrong(full, b string, levels int) api.Errno {
	if _, is := w.find(full).what.(api.Message); !is || full == "" {
		return api.ErrNone
	}
	l, err := onWires(b)
	for _, r := range l {
		f, is := w.taking(full, r)
		switch {
		case !is || err != api.OK || f.Type == api.TBytes:
		case f.Type == api.TMessage:
			err = w.wrongWithin(w.typed(f).full, r.b, levels+1)
		case f.Type == api.TString:
			if w.proto3(f.owner) && !utf8.ValidString(r.b) {
				err = api.ErrText
			}
		default:
			if _, whole := list(f, r); !whole {
				err = api.ErrWorth
			}
		}
	}
	return err
}

// come is a worth that has come; of a message that isn't repeated its bytes alone.
type come struct {
	field owned
	val   api.Val
	bytes string
}

// told answers what bytes that aren't wrong tell.
func (w world) told(full, b string) api.Msg {
	var m api.Msg
	var there []come
	l, _ := onWires(b)
	for _, r := range l {
		f, is := w.taking(full, r)
		if !is {
			m.Unknown = append(m.Unknown, r.laid()...)
			continue
		}
		for _, c := range w.comes(f, r) {
			if f.Type == api.TEnum && !w.has(f, c.val.N) {
				m.Unknown = append(m.Unknown, uv(r.num, c.val.N)...)
				continue
			}
			there = append(slices.DeleteFunc(there, func(old come) bool { return w.goes(old, c) }), c)
		}
	}
	slices.SortStableFunc(there, func(a, b come) int { return int(a.field.Number - b.field.Number) })
	for len(there) > 0 {
		f, count := there[0].field, 0
		s := api.Slot{Num: int(f.Number)}
		bytes := ""
		for _, c := range there {
			if c.field.Number == f.Number {
				s.Vals = append(s.Vals, c.val)
				bytes += c.bytes
				count++
			}
		}
		if f.Type == api.TMessage && f.Label != api.LabelRepeated {
			s.Vals = []api.Val{{M: w.told(w.typed(f).full, bytes)}}
		}
		m.Slots = append(m.Slots, s)
		there = there[count:]
	}
	return m
}

// comes answers what comes with a field on the wire that is taken.
func (w world) comes(f owned, r onWire) []come {
	switch {
	case f.Type == api.TMessage && f.Label == api.LabelRepeated:
		return []come{{f, api.Val{M: w.told(w.typed(f).full, r.b)}, ""}}
	case f.Type == api.TMessage:
		return []come{{f, api.Val{}, r.b}}
	case f.Type == api.TString || f.Type == api.TBytes:
		return []come{{f, api.Val{B: []byte(r.b)}, ""}}
	}
	var l []come
	vals, _ := list(f, r)
	for _, v := range vals {
		l = append(l, come{f, v, ""})
	}
	return l
}

// goes answers whether what is there goes when another one comes.
func (w world) goes(old, c come) bool {
	if old.field.Number != c.field.Number {
		return c.field.Oneof != 0 && old.field.Oneof == c.field.Oneof
	}
	if c.field.Label != api.LabelRepeated {
		return c.field.Type != api.TMessage
	}
	m, is := w.typed(c.field).what.(api.Message)
	return is && c.field.Type == api.TMessage && strings.HasPrefix(string(m.Options), "\x38\x01") && w.key(c.field, old.val.M) == w.key(c.field, c.val.M)
}

// key says what an entry's key has.
func (w world) key(f owned, m api.Msg) string {
	l := []api.Val{{}}
	of := w.typed(f).full
	for _, s := range m.Slots {
		if key, _ := w.numbered(of, s.Num); key.Name == "key" && key.owner == of {
			l = s.Vals
		}
	}
	return said(api.Msg{Slots: []api.Slot{{Vals: l}}})
}

// has answers whether a field's enum has a number.
func (w world) has(f owned, n uint64) bool {
	of := w.typed(f)
	e, _ := of.what.(api.Enum)
	return of.file.Syntax == "proto3" || slices.ContainsFunc(e.Values, func(v api.Value) bool { return v.Number == int64(n) })
}

// lacks answers whether something that must be there isn't.
func (w world) lacks(full string, m api.Msg) bool {
	for _, f := range w.fields(full) {
		at := slices.IndexFunc(m.Slots, func(s api.Slot) bool { return int64(s.Num) == f.Number })
		if at < 0 && f.Label == api.LabelRequired {
			return true
		}
		if at >= 0 && f.Type == api.TMessage && slices.ContainsFunc(m.Slots[at].Vals, func(v api.Val) bool { return w.lacks(w.typed(f).full, v.M) }) {
			return true
		}
	}
	return false
}

// decode answers what bytes tell, or why they tell nothing.
func (w world) decode(full, b string) (api.Msg, api.Errno) {
	if err := w.wrong(full, b, 1); err != api.OK {
		return api.Msg{}, err
	}
	m := w.told(full, b)
	if w.lacks(full, m) {
		return api.Msg{}, api.ErrRequired
	}
	return m, api.OK
}
