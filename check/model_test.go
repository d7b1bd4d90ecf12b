package check_test

import (
	"fmt"
	"slices"
	"strconv"
	"strings"

	"glossary/api"
	"glossary/names"
	"glossary/pool"
)

// table is the chapter's: which rules parts have, in turn (but for rule 15, which is never broken by itself).
const table = `
message 5 6 16
oneof 7
field 8 9 10 11 12 13 14 17
enum 18
value 19
ext 11 12 17 20 21
service 22
method 23
`

// spot is a part of a file in its turn.
type spot struct {
	kind    string
	name    string // its own
	full    string
	file    api.File
	around  *spot // the message in which it stands
	at      int   // its place in its list
	message api.Message
	field   api.Field // of an extension, too
	enum    api.Enum  // of a value, that in which it stands
	value   api.Value
	method  api.Method
}

// world is all that there is.
type world struct {
	files []api.File
	spots []spot
}

// turns answers all parts in the chapter's order.
func turns(l []api.File) world {
	w := world{files: l}
	for _, f := range l {
		top := spot{full: f.Package, file: f}
		w.messages(f.Messages, top, nil)
		w.enums(f.Enums, top, nil)
		for i, s := range f.Services {
			one := w.add(spot{kind: "service", name: s.Name, at: i}, top, nil)
			for k, m := range s.Methods {
				w.add(spot{kind: "method", name: m.Name, at: k, method: m}, one, nil)
			}
		}
		w.extends(f.Extends, top, nil)
	}
	return w
}

// add puts a part, that is named in a scope, behind the others.
func (w *world) add(s, scope spot, around *spot) spot {
	s.full, s.file, s.around = join(scope.full, s.name), scope.file, around
	w.spots = append(w.spots, s)
	return s
}

func (w *world) messages(l []api.Message, scope spot, around *spot) {
	for i, m := range l {
		one := w.add(spot{kind: "message", name: m.Name, at: i, message: m}, scope, around)
		for k, o := range m.Oneofs {
			w.add(spot{kind: "oneof", name: o.Name, at: k}, one, &one)
		}
		for k, f := range m.Fields {
			w.add(spot{kind: "field", name: f.Name, at: k, field: f}, one, &one)
		}
		w.messages(m.Nested, one, &one)
		w.enums(m.Enums, one, &one)
		w.extends(m.Extends, one, &one)
	}
}

func (w *world) enums(l []api.Enum, scope spot, around *spot) {
	for i, e := range l {
		w.add(spot{kind: "enum", name: e.Name, at: i, enum: e}, scope, around)
		for k, v := range e.Values {
			w.add(spot{kind: "value", name: v.Name, at: k, enum: e, value: v}, scope, around)
		}
	}
}

func (w *world) extends(l []api.Field, scope spot, around *spot) {
	for i, f := range l {
		w.add(spot{kind: "ext", name: f.Name, at: i, field: f}, scope, around)
	}
}

// modelSet answers the name and the rule that check.Set is to answer.
func modelSet(l []api.File) (string, int) {
	for i, f := range l {
		if rule := modelFile(f, l[:i]); rule != 0 {
			return f.Name, rule
		}
	}
	if _, full, err := pool.New(l); err != api.OK {
		return full, 4
	}
	w, of := turns(l), rules()
	for i, s := range w.spots {
		for _, rule := range of[s.kind] {
			if !w.keeps(rule, i) {
				return s.full, rule
			}
		}
	}
	return "", 0
}

// rules answers the table's rules of each kind of parts.
func rules() map[string][]int {
	of := map[string][]int{}
	for line := range strings.Lines(strings.TrimSpace(table)) {
		words := strings.Fields(line)
		for _, word := range words[1:] {
			rule, _ := strconv.Atoi(word)
			of[words[0]] = append(of[words[0]], rule)
		}
	}
	return of
}

func modelFile(f api.File, ahead []api.File) int {
	there := namesOf(ahead)
	switch {
	case f.Name == "", len(f.Name) > 1000, slices.Contains(there, f.Name):
		return 1
	}
	for i, dep := range f.Deps {
		if !slices.Contains(there, dep) || slices.Contains(f.Deps[:i], dep) {
			return 2
		}
	}
	for i, place := range f.Public {
		if place < 0 || place >= len(f.Deps) || i > 0 && f.Public[i-1] >= place {
			return 2
		}
	}
	for name := range strings.SplitSeq(f.Package, ".") {
		if f.Package != "" && (!isName.MatchString(name) || len(f.Package) > 1000) {
			return 3
		}
	}
	if f.Syntax != "" && f.Syntax != "proto3" {
		return 3
	}
	return 0
}

// keeps answers whether a part keeps a rule.
func (w world) keeps(rule, at int) bool {
	s := w.spots[at]
	f, proto3 := s.field, s.file.Syntax == "proto3"
	var m api.Message // that around a field
	if s.around != nil {
		m = s.around.message
	}
	switch rule {
	case 5:
		return fits(s.name, s.full) && s.depth() <= 15 && areNames(s.message.Words)
	case 6:
		return modelRanges(slices.Concat(s.message.Reserved, s.message.Ranges)) && (!proto3 || len(s.message.Ranges) == 0)
	case 7:
		return isName.MatchString(s.name) && slices.ContainsFunc(m.Fields, func(f api.Field) bool { return f.Oneof == s.at+1 })
	case 8:
		return isName.MatchString(s.name) && !slices.Contains(m.Words, s.name)
	case 9:
		return modelNumber(f.Number) && !within(f.Number, m.Ranges) && !within(f.Number, m.Reserved) &&
			!slices.ContainsFunc(m.Fields[:s.at], func(g api.Field) bool { return g.Number == f.Number })
	case 10:
		return f.Label >= 1 && f.Label <= 3 && (f.Label != 2 || !proto3) && f.Extendee == ""
	case 11:
		return w.typeFits(s)
	case 12:
		return w.defaultFits(s)
	case 13:
		return oneofFits(f, m, proto3)
	case 14:
		return f.Json != "" && !slices.ContainsFunc(m.Fields[:s.at], func(g api.Field) bool { return g.Json == f.Json })
	case 16:
		return !pool.Entry(s.message) || entryFits(s)
	case 17:
		of, is := w.named(s.file, f.TypeName, "message")
		return !is || f.Type != api.TMessage || !pool.Entry(of.message) || mapFits(s, of)
	case 18:
		return fits(s.name, s.full) && len(s.enum.Values) > 0 && (!proto3 || s.enum.Values[0].Number == 0)
	case 19:
		return isName.MatchString(s.name) && s.name != "option" && s.name != "reserved" && int64(int32(s.value.Number)) == s.value.Number &&
			!slices.ContainsFunc(s.enum.Values[:s.at], func(v api.Value) bool { return v.Number == s.value.Number })
	case 20:
		return fits(s.name, s.full) && (f.Label == 1 || f.Label == 3) && f.Oneof == 0 && !f.Optional && f.Json == ""
	case 21:
		of, is := w.named(s.file, f.Extendee, "message")
		return is && within(f.Number, of.message.Ranges) && !slices.ContainsFunc(w.spots[:at], func(o spot) bool {
			return o.kind == "ext" && o.field.Extendee == f.Extendee && o.field.Number == f.Number
		})
	case 22:
		return isName.MatchString(s.name)
	case 23:
		_, in := w.named(s.file, s.method.In, "message")
		_, out := w.named(s.file, s.method.Out, "message")
		return isName.MatchString(s.name) && in && out
	}
	panic(fmt.Sprint("no rule ", rule))
}

// fits answers whether names may be those of a part.
func fits(name, full string) bool {
	return isName.MatchString(name) && len(full) <= 1000
}

// depth answers in how many messages a message stands.
func (s spot) depth() int {
	if s.around == nil {
		return 0
	}
	return 1 + s.around.depth()
}

func areNames(l []string) bool {
	for i, s := range l {
		if !isName.MatchString(s) || slices.Contains(l[:i], s) {
			return false
		}
	}
	return true
}

func modelRanges(l []api.Range) bool {
	for i, r := range l {
		if r.From < 1 || r.From > r.To || r.To > 1<<29-1 {
			return false
		}
		for _, other := range l[:i] {
			if max(r.From, other.From) <= min(r.To, other.To) {
				return false
			}
		}
	}
	return true
}

func within(n int64, l []api.Range) bool {
	return slices.ContainsFunc(l, func(r api.Range) bool { return r.From <= n && n <= r.To })
}

func modelNumber(n int64) bool {
	return n >= 1 && n < 1<<29 && n/1000 != 19
}

// sees answers whether a file sees another.
func (w world) sees(f api.File, path string) bool {
	seen := append([]string{f.Name}, f.Deps...)
	for i := 0; i < len(seen); i++ {
		for _, of := range w.files {
			if of.Name != seen[i] {
				continue
			}
			for _, place := range of.Public {
				if dep := of.Deps[place]; !slices.Contains(seen, dep) {
					seen = append(seen, dep)
				}
			}
		}
	}
	return slices.Contains(seen, path)
}

// named answers the part that a name with a dot ahead means to a file.
func (w world) named(f api.File, name, kind string) (spot, bool) {
	for _, s := range w.spots {
		if "."+s.full == name && s.kind == kind && w.sees(f, s.file.Name) {
			return s, true
		}
	}
	return spot{}, false
}

func (w world) typeFits(s spot) bool {
	switch f := s.field; f.Type {
	case 11:
		_, is := w.named(s.file, f.TypeName, "message")
		return is
	case 14:
		of, is := w.named(s.file, f.TypeName, "enum")
		return is && (s.file.Syntax == "" || of.file.Syntax == "proto3")
	case 1, 2, 3, 4, 5, 6, 7, 8, 9, 12, 13, 15, 16, 17, 18:
		return f.TypeName == ""
	}
	return false
}

func (w world) defaultFits(s spot) bool {
	f := s.field
	if !f.Has {
		return f.Default == ""
	}
	of, isEnum := w.named(s.file, f.TypeName, "enum")
	return f.Label == 1 && s.file.Syntax == "" && modelDefault(f.Type, f.Default) &&
		(!isEnum || slices.ContainsFunc(of.enum.Values, func(v api.Value) bool { return v.Name == f.Default }))
}

func oneofFits(f api.Field, m api.Message, proto3 bool) bool {
	count := 0
	for _, g := range m.Fields {
		if g.Oneof == f.Oneof {
			count++
		}
	}
	is := f.Oneof == 0 || f.Oneof > 0 && f.Oneof <= len(m.Oneofs) && f.Label == 1
	return is && (!f.Optional || proto3 && f.Oneof != 0 && count == 1)
}

// entryFits answers whether a message is as an entry must be.
func entryFits(s spot) bool {
	m := s.message
	if s.around == nil || len(m.Fields) != 2 {
		return false
	}
	others := []int{len(m.Nested), len(m.Enums), len(m.Ranges), len(m.Extends), len(m.Oneofs), len(m.Reserved), len(m.Words)}
	if slices.Max(others) > 0 || slices.Contains([]int{1, 2, 12, 11, 14}, m.Fields[0].Type) {
		return false
	}
	for i, f := range m.Fields {
		if f.Name != []string{"key", "value"}[i] || f.Number != int64(i+1) || f.Label != 1 || f.Has || f.Oneof != 0 {
			return false
		}
	}
	var maps []api.Field
	for _, f := range s.around.message.Fields {
		if f.Type == 11 && f.TypeName == "."+s.full {
			maps = append(maps, f)
		}
	}
	return len(maps) == 1 && maps[0].Label == 3 && names.Entry(maps[0].Name) == s.name
}

// mapFits answers whether a field is what an entry's map is.
func mapFits(s, entry spot) bool {
	return s.kind == "field" && entry.around != nil && entry.around.full == s.around.full && s.field.Label == 3 && names.Entry(s.name) == entry.name
}
