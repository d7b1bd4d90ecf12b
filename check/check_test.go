package check_test

import (
	"fmt"
	"math"
	"reflect"
	"slices"
	"strings"
	"testing"
	"unsafe"

	"glossary/api"
	"glossary/check"
	"glossary/desc"
)

// P16.1: the chapter's example.
func TestExample(t *testing.T) {
	f := api.File{Name: "a", Messages: []api.Message{{Name: "M", Fields: []api.Field{
		{Name: "f", Number: 1, Label: 1, Type: api.TInt32, Json: "f"},
		{Name: "g", Number: 1, Label: 1, Type: api.TInt32, Json: "g"},
	}}}}
	hold(t, []api.File{f}, "M.g", 9)
}

// P16.1: what the sources come to is taken.
func TestTaken(t *testing.T) {
	hold(t, base(t), "", 0)
	hold(t, nil, "", 0)
	hold(t, []api.File{}, "", 0)
	hold(t, []api.File{{Name: "a"}}, "", 0)
	hold(t, []api.File{{Name: "a", Messages: []api.Message{}, Deps: []string{}, Public: []int{}}}, "", 0)
	hold(t, compiled(t, ``, `syntax = "proto3"; import "a.proto";`, `import public "b.proto"; import "a.proto";`), "", 0)
}

// P16.1: rule 1, of the files' names.
func TestRule1(t *testing.T) {
	last := func(name string) func(f files) { return func(f files) { f.l[2].Name = name } }
	holdTwists(t, []twist{
		{"", 1, last("")},
		{"", 0, last(long(1000))},
		{long(1001), 1, last(long(1001))},
		{"a.proto", 1, last("a.proto")},
		{"b.proto", 1, last("b.proto")},
		{"", 0, last("A.proto")},
		{"", 0, last("\x00\xff ")},
		{"", 1, func(f files) { f.l[0].Name = "" }},
	})
}

// P16.1: rule 2, of imports.
func TestRule2(t *testing.T) {
	deps := func(deps ...string) func(f files) {
		return func(f files) { f.l[1].Deps, f.l[1].Public = deps, []int{0} }
	}
	public := func(places ...int) func(f files) {
		return func(f files) { f.l[2].Deps, f.l[2].Public = []string{"b.proto", "a.proto"}, places }
	}
	holdTwists(t, []twist{
		{"b.proto", 2, deps("q")},
		{"b.proto", 2, deps("a.proto", "q")},
		{"b.proto", 2, deps("q", "a.proto")},
		{"b.proto", 2, deps("b.proto")},
		{"b.proto", 2, deps("c.proto")},
		{"b.proto", 2, deps("a.proto", "c.proto")},
		{"b.proto", 2, deps("a.proto", "")},
		{"b.proto", 2, deps("a.proto", "a.proto")},
		{"", 0, deps("a.proto")},
		{"b.proto", 2, deps()},
		{"a.proto", 2, func(f files) { f.l[0].Deps = []string{"b.proto"} }},
		{"a.proto", 2, func(f files) { f.l[0].Deps = []string{"a.proto"} }},
		{"a.proto", 2, func(f files) { f.l[0].Public = []int{0} }},
		{"", 0, public()},
		{"", 0, public(0)},
		{"", 0, public(1)},
		{"", 0, public(0, 1)},
		{"c.proto", 2, public(1, 0)},
		{"c.proto", 2, public(0, 0)},
		{"c.proto", 2, public(1, 1)},
		{"c.proto", 2, public(2)},
		{"c.proto", 2, public(-1)},
		{"c.proto", 2, public(-1, 0)},
		{"c.proto", 2, public(0, 1, 2)},
		{"c.proto", 2, public(math.MaxInt)},
		{"c.proto", 2, public(math.MinInt)},
	})
}

// P16.1: rule 3, of packages and of what the syntax is.
func TestRule3(t *testing.T) {
	for _, pack := range []string{"a", "a.b", "_", "a1._b", "message", "", long(200), longFull(0)[:999], longFull(-1)} {
		hold(t, []api.File{{Name: "x", Package: pack}}, "", 0)
	}
	for _, pack := range []string{"1", "a.", ".a", ".", "a..b", "a b", "ä", long(201), longFull(-2), "\x00", "a.1"} {
		hold(t, []api.File{{Name: "x", Package: pack}}, "x", 3)
	}
	hold(t, []api.File{{Name: "x", Syntax: "proto3"}}, "", 0)
	for _, syntax := range []string{"proto2", "proto", "Proto3", "proto3 ", "3", "editions"} {
		hold(t, []api.File{{Name: "x", Syntax: syntax}}, "x", 3)
	}
}

// P16.1: rules 1 to 3 are gone through file by file, ahead of all others.
func TestFilesFirst(t *testing.T) {
	bad := api.File{Name: "x", Package: "a", Messages: []api.Message{{Name: "1"}, {Name: "1"}}}
	hold(t, []api.File{bad}, "a.1", 4)
	for _, c := range []struct {
		l    []api.File
		name string
		rule int
	}{
		{[]api.File{bad, {Name: ""}}, "", 1},
		{[]api.File{bad, {Name: "y", Package: "1", Deps: []string{"q"}}}, "y", 2},
		{[]api.File{bad, {Name: "y", Package: "1"}, {Name: "y"}}, "y", 3},
		{[]api.File{bad, {Name: "y", Syntax: "s"}, {Name: ""}}, "y", 3},
		{[]api.File{bad, {Name: "y", Deps: []string{"q"}}, {Name: ""}}, "y", 2},
		{[]api.File{bad, {Name: "x", Deps: []string{"q"}}, {Name: "y", Syntax: "s"}}, "x", 1},
		{[]api.File{bad, {Name: "y", Package: "a."}, {Name: "y"}}, "y", 3},
		{[]api.File{bad, {Name: "y"}}, "a.1", 4},
	} {
		hold(t, c.l, c.name, c.rule)
	}
}

// P16.1: rule 4, in all files ahead of the rules of what stands in them.
func TestRule4(t *testing.T) {
	holdTwists(t, []twist{
		{"p.q.E", 4, func(f files) { f.message("p.q.M").Name = "E" }},
		{"p.q.E", 4, func(f files) { f.service("p.q.S").Name = "E" }},
		{"p.q.M.a", 4, func(f files) { f.field("p.q.M.b").Name = "a" }},
		{"p.q.M.o", 4, func(f files) { f.oneof("p.q.M.alone").Name = "o" }},
		{"p.q.M.N", 4, func(f files) { f.message("p.q.M.MyMapEntry").Name = "N" }},
		{"p.q.M.I0", 4, func(f files) { f.field("p.q.M.in").Name = "I0" }},
		{"p.q.S.r", 4, func(f files) { f.method("p.q.S.s").Name = "r" }},
		{"p.q", 4, func(f files) { f.message("p.T").Name = "q" }},
		{"p", 4, func(f files) { f.message("U").Name = "p" }},
		{"U", 4, func(f files) { f.field("t").Name = "U" }},
		{"p.q.E1", 4, func(f files) { f.message("p.q.M").Name = "1"; f.field("p.q.e1").Name = "E1" }},
		{"e", 4, func(f files) { f.l[0].Messages[0].Name = "1"; f.field("u").Name = "e" }},
	})
	hold(t, []api.File{{Name: "x", Messages: []api.Message{{}, {}}}}, "", 4)
}

// P16.1: rule 5, of messages.
func TestRule5(t *testing.T) {
	words := func(words ...string) func(f files) {
		return func(f files) { f.message("p.q.M.N.Inner").Words = words }
	}
	holdTwists(t, []twist{
		{"p.q.1", 5, func(f files) { f.message("p.q.M").Name = "1" }},
		{"p.q.", 5, func(f files) { f.message("p.q.M").Name = "" }},
		{"p.q.M.N.Inner.a", 5, func(f files) { f.message("p.q.M.N.Inner").Name = "Inner.a"; untyped(f, ".p.q.M.N.Inner") }},
		{"p.", 5, func(f files) { f.message("p.T").Name = "" }},
		{"U ", 5, func(f files) { f.message("U").Name = "U " }},
		{"p." + long(201), 5, func(f files) { f.message("p.T").Name = long(201) }},
		{"", 0, words("a", "b", "_1", long(200), "message", "option")},
		{"p.q.M.N.Inner", 5, words("a", "b", "a")},
		{"p.q.M.N.Inner", 5, words("a", "")},
		{"p.q.M.N.Inner", 5, words("1")},
		{"p.q.M.N.Inner", 5, words("a", "b.c")},
		{"p.q.M.N.Inner", 5, words(long(201))},
	})
	for _, c := range []struct{ room, rule int }{{5, 0}, {4, 5}} {
		f := api.File{Name: "x", Package: longFull(5), Messages: []api.Message{{Name: long(10 - c.room)}}}
		name := join(f.Package, f.Messages[0].Name)
		if c.rule == 0 {
			name = ""
		}
		hold(t, []api.File{f}, name, c.rule)
	}
	hold(t, []api.File{{Name: "x", Messages: nested(16)}}, "", 0)
	for _, deep := range []int{17, 18, 64} {
		hold(t, []api.File{{Name: "x", Messages: nested(deep)}}, "m"+strings.Repeat(".m", 16), 5)
	}
}

// nested answers so many messages within one another.
func nested(deep int) []api.Message {
	var l []api.Message
	for range deep {
		l = []api.Message{{Name: "m", Nested: l}}
	}
	return l
}

// ranges answers a list of them from their Froms and Tos.
func ranges(said ...int64) []api.Range {
	var l []api.Range
	for i := 0; i < len(said); i += 2 {
		l = append(l, api.Range{From: said[i], To: said[i+1]})
	}
	return l
}

// P16.1: rule 6, of ranges.
func TestRule6(t *testing.T) {
	const most = api.MaxField
	for _, c := range []struct {
		ranges, reserved []api.Range
		is               bool
	}{
		{nil, nil, true},
		{ranges(1, 1), nil, true},
		{ranges(1, most), nil, true},
		{nil, ranges(1, most), true},
		{ranges(most, most), ranges(1, 1), true},
		{ranges(19000, 19999), ranges(18000, 18999, 20000, 20000), true},
		{ranges(5, 6, 1, 4, 7, 9), ranges(100, 100, 10, 99), true},
		{ranges(0, 1), nil, false},
		{nil, ranges(0, 0), false},
		{ranges(-5, -1), nil, false},
		{ranges(-5, 5), nil, false},
		{nil, ranges(math.MinInt64, math.MaxInt64), false},
		{ranges(2, 1), nil, false},
		{nil, ranges(10, 5), false},
		{ranges(1, most+1), nil, false},
		{nil, ranges(most+1, most+1), false},
		{ranges(1, math.MaxInt64), nil, false},
		{ranges(1, 1, 1, 1), nil, false},
		{nil, ranges(1, 5, 5, 6), false},
		{nil, ranges(5, 6, 1, 5), false},
		{ranges(1, 10, 3, 4), nil, false},
		{ranges(3, 4, 1, 10), nil, false},
		{ranges(1, 5), ranges(5, 9), false},
		{ranges(5, 9), ranges(1, 5), false},
		{ranges(1, 100), ranges(50, 50), false},
		{ranges(50, 50), ranges(1, 100), false},
		{ranges(1, 100, 200, 300), ranges(150, 160, 300, 400), false},
		{ranges(1, 2, 3, 4, 5, 6), ranges(8, 7), false},
	} {
		f := api.File{Name: "x", Messages: []api.Message{{Name: "M", Ranges: c.ranges, Reserved: c.reserved}}}
		name, rule := "", 0
		if !c.is {
			name, rule = "M", 6
		}
		hold(t, []api.File{f}, name, rule)
		f.Syntax = "proto3"
		if len(c.ranges) > 0 {
			name, rule = "M", 6
		}
		hold(t, []api.File{f}, name, rule)
	}
}

// P16.1: rules 7 and 13, of oneofs and of the fields in them.
func TestOneofs(t *testing.T) {
	in := func(full string, oneof int) func(f files) {
		return func(f files) { f.field(full).Oneof = oneof }
	}
	holdTwists(t, []twist{
		{"p.q.M.1", 7, func(f files) { f.oneof("p.q.M.o").Name = "1" }},
		{"p.q.M.", 7, func(f files) { f.oneof("p.q.M.alone").Name = "" }},
		{"p.T._a ", 7, func(f files) { f.oneof("p.T._a").Name = "_a " }},
		{"p.q.M." + long(201), 7, func(f files) { f.oneof("p.q.M.o").Name = long(201) }},
		{"", 0, func(f files) { f.oneof("p.q.M.o").Name = long(200) }},
		{"p.q.M.alone", 7, in("p.q.M.z", 1)},
		{"p.q.M.alone", 7, in("p.q.M.z", 0)},
		{"p.q.M.third", 7, func(f files) {
			m := f.message("p.q.M")
			m.Oneofs = append(m.Oneofs, api.Oneof{Name: "third"})
		}},
		{"", 0, in("p.q.M.x", 2)},
		{"", 0, in("p.q.M.a", 2)},
		{"p.q.M.a", 13, in("p.q.M.a", 3)},
		{"p.q.M.a", 13, in("p.q.M.a", -1)},
		{"p.q.M.a", 13, in("p.q.M.a", math.MaxInt)},
		{"p.q.M.a", 13, in("p.q.M.a", math.MinInt)},
		{"p.q.M.b", 13, in("p.q.M.b", 1)},
		{"p.q.M.c", 13, in("p.q.M.c", 1)},
		{"p.q.M.my_map", 13, in("p.q.M.my_map", 1)},
		{"p.q.M.N.i", 13, in("p.q.M.N.i", 1)},
		{"p.q.M.x", 13, func(f files) { f.field("p.q.M.x").Label = 3 }},
		{"p.q.M.x", 13, func(f files) { f.field("p.q.M.x").Label = 2 }},
		{"p.q.M.a", 13, func(f files) { f.field("p.q.M.a").Optional = true }},
		{"p.q.M.z", 13, func(f files) { f.field("p.q.M.z").Optional = true }},
		{"p.T.b", 13, func(f files) { f.field("p.T.b").Optional = true }},
		{"p.T.x", 13, func(f files) { f.field("p.T.x").Optional = true }},
		{"p.T.y", 13, func(f files) { f.field("p.T.y").Optional = true }},
		{"", 0, func(f files) { f.field("p.T.a").Optional = false }},
		{"p.T._a", 7, in("p.T.a", 0)},
		{"p.T.a", 13, in("p.T.f", 2)},
		{"p.T.g", 13, in("p.T.f", 3)},
		{"p.T.c", 13, func(f files) { f.field("p.T.c").Optional = true }},
		{"", 0, func(f files) {
			f.message("p.T").Oneofs = append(f.message("p.T").Oneofs, api.Oneof{Name: "new"})
			f.field("p.T.b").Optional, f.field("p.T.b").Oneof = true, 4
		}},
	})
}

// P16.1: rule 8, of fields' names.
func TestRule8(t *testing.T) {
	name := func(full, name string) func(f files) {
		return func(f files) { f.field(full).Name = name }
	}
	holdTwists(t, []twist{
		{"p.q.M.1", 8, name("p.q.M.a", "1")},
		{"p.q.M.", 8, name("p.q.M.a", "")},
		{"p.q.M.a.b", 8, name("p.q.M.a", "a.b")},
		{"p.q.M.foo", 8, name("p.q.M.a", "foo")},
		{"p.q.M.bar", 8, name("p.q.M.z", "bar")},
		{"", 0, name("p.q.M.N.i", "foo")},
		{"", 0, name("p.q.M.a", "Foo")},
		{"", 0, name("p.q.M.a", long(200))},
		{"p.q.M." + long(201), 8, name("p.q.M.a", long(201))},
		{"p.T.ä", 8, name("p.T.b", "ä")},
	})
	// A field's full name has no limit of its own.
	f := api.File{Name: "x", Package: longFull(1), Messages: []api.Message{{Name: "m", Fields: []api.Field{{Name: long(200), Number: 1, Label: 1, Type: 5, Json: "a"}}}}}
	hold(t, []api.File{f}, "", 0)
}

// P16.1: rule 9, of fields' numbers.
func TestRule9(t *testing.T) {
	number := func(full string, n int64) func(f files) {
		return func(f files) { f.field(full).Number = n }
	}
	var l []twist
	for _, n := range []int64{0, -1, math.MinInt64, math.MaxInt64, api.MaxField + 1, 19000, 19999, 19500, 100, 150, 199, 300, api.MaxField, 20, 25, 29, 40, 1<<32 + 1} {
		l = append(l, twist{"p.q.M.c", 9, number("p.q.M.c", n)})
	}
	for _, n := range []int64{9, 19, 30, 39, 41, 99, 200, 299, 301, 18999, 20000, api.MaxField - 1} {
		l = append(l, twist{"", 0, number("p.q.M.c", n)})
	}
	l = append(l, twist{"", 0, number("p.T.b", api.MaxField)}, twist{"p.T.b", 9, number("p.T.b", 110)},
		twist{"p.q.M.c", 9, number("p.q.M.c", 1)}, twist{"p.q.M.b", 9, number("p.q.M.a", 2)}, twist{"p.q.M.z", 9, number("p.q.M.a", 8)},
		// What isn't this message's own doesn't count.
		twist{"", 0, number("p.q.M.N.i", 150)})
	holdTwists(t, l)
	// Each number of many ranges, in any order, and the numbers beside them.
	m := api.Message{Name: "M", Fields: []api.Field{{Name: "f", Label: 1, Type: 5, Json: "f"}}}
	for n := int64(1000); n > 0; n -= 3 {
		m.Ranges = append(m.Ranges, api.Range{From: n + 3000, To: n + 3001})
		m.Reserved = append(m.Reserved, api.Range{From: n, To: n})
	}
	for n := int64(1); n < 4100; n++ {
		m.Fields[0].Number = n
		name, rule := "", 0
		if n <= 1000 && n%3 == 1 || n > 3000 && n <= 4001 && n%3 != 0 {
			name, rule = "M.f", 9
		}
		if got, number, _ := check.Set([]api.File{{Name: "x", Messages: []api.Message{m}}}); got != name || number != rule {
			t.Errorf("%d: %q, %d, want %q, %d", n, got, number, name, rule)
		}
	}
}

// P16.1: rule 10, of labels, and of what is for extensions alone.
func TestRule10(t *testing.T) {
	label := func(full string, label int) func(f files) {
		return func(f files) { f.field(full).Label = label }
	}
	holdTwists(t, []twist{
		{"p.q.M.b", 10, label("p.q.M.b", 0)},
		{"p.q.M.b", 10, label("p.q.M.b", 4)},
		{"p.q.M.b", 10, label("p.q.M.b", -1)},
		{"p.q.M.b", 10, label("p.q.M.b", math.MaxInt)},
		{"", 0, label("p.q.M.b", 1)},
		{"", 0, label("p.q.M.b", 2)},
		{"p.T.b", 10, label("p.T.b", 2)},
		{"", 0, label("p.T.b", 3)},
		{"p.T.b", 10, label("p.T.b", 0)},
		{"p.q.M.b", 10, func(f files) { f.field("p.q.M.b").Extendee = ".p.q.M" }},
		{"p.T.b", 10, func(f files) { f.field("p.T.b").Extendee = "q" }},
	})
}

// P16.1: rule 11, of types.
func TestRule11(t *testing.T) {
	typed := func(full string, kind int, name string) func(f files) {
		return func(f files) {
			at := f.field(full)
			at.Type, at.TypeName, at.Has, at.Default = kind, name, false, ""
		}
	}
	var l []twist
	for _, full := range []string{"p.q.M.a", "p.T.b", "p.q.M.deep_of", "U.a", "e", "p.e1", "p.q.M.in"} {
		if full == "p.q.M.deep_of" {
			full = "p.q.M.N.deep"
		}
		for kind := -1; kind <= 20; kind++ {
			is := kind >= 1 && kind <= 18 && kind != 10 && kind != api.TMessage && kind != api.TEnum
			if is {
				l = append(l, twist{"", 0, typed(full, kind, "")})
			} else {
				l = append(l, twist{full, 11, typed(full, kind, "")})
			}
			if kind != api.TMessage && kind != api.TEnum {
				l = append(l, twist{full, 11, typed(full, kind, ".p.q.M")}, twist{full, 11, typed(full, kind, ".")})
			}
		}
		l = append(l, twist{full, 11, typed(full, math.MaxInt, "")}, twist{full, 11, typed(full, math.MinInt, "")})
		for _, name := range []string{"", ".", "p.q.M", "M", ".M", ".p.q", ".p.q.M.", "..p.q.M", ".p.q.Q", ".p.q.S", ".p.q.M.a", ".p.q.M.o", ".p.q.E0", ".p.q.e1", ".p.q.S.r", ".p.q.m"} {
			l = append(l, twist{full, 11, typed(full, api.TMessage, name)}, twist{full, 11, typed(full, api.TEnum, name)})
		}
		l = append(l, twist{"", 0, typed(full, api.TMessage, ".p.q.M")}, twist{"", 0, typed(full, api.TMessage, ".p.q.M.N.Inner")},
			twist{full, 11, typed(full, api.TEnum, ".p.q.M")}, twist{full, 11, typed(full, api.TMessage, ".p.q.E")})
	}
	l = append(l,
		// An enum of proto2 is none for proto3; the other way round it may be.
		twist{"", 0, typed("p.q.M.a", api.TEnum, ".p.q.E")}, twist{"", 0, typed("p.q.M.a", api.TEnum, ".p.q.M.In")},
		twist{"p.T.b", 11, typed("p.T.b", api.TEnum, ".p.q.E")}, twist{"p.T.b", 11, typed("p.T.b", api.TEnum, ".p.q.M.In")},
		twist{"", 0, typed("p.T.b", api.TEnum, ".p.F")}, twist{"", 0, typed("U.a", api.TEnum, ".p.F")},
		twist{"p.e1", 11, typed("p.e1", api.TEnum, ".p.q.E")}, twist{"", 0, typed("e", api.TEnum, ".p.q.E")},
		// What isn't seen: it stands in a file behind, or in one that is not public.
		twist{"p.q.M.a", 11, typed("p.q.M.a", api.TMessage, ".p.T")}, twist{"p.T.b", 11, typed("p.T.b", api.TMessage, ".U")},
		twist{"p.q.M.a", 11, typed("p.q.M.a", api.TEnum, ".p.F")}, twist{"p.q.e1", 11, typed("p.q.e1", api.TMessage, ".p.T")},
		twist{"U.a", 11, func(f files) { f.l[1].Public = nil }},
		twist{"", 0, func(f files) { f.l[1].Public = nil; f.l[2].Deps = []string{"b.proto", "a.proto"} }},
		twist{"p.T.c", 11, func(f files) { f.l[1].Deps, f.l[1].Public, f.l[2].Deps = nil, nil, []string{"a.proto", "b.proto"} }},
		twist{"U.b", 11, func(f files) { f.l[2].Deps = []string{"a.proto"} }},
	)
	holdTwists(t, l)
}

// P16.1: rule 12, of defaults.
func TestRule12(t *testing.T) {
	worth := func(full, text string) func(f files) {
		return func(f files) { f.field(full).Has, f.field(full).Default = true, text }
	}
	plain := func(full string, kind int, text string) func(f files) {
		return func(f files) {
			at := f.field(full)
			at.Type, at.TypeName, at.Has, at.Default = kind, "", true, text
		}
	}
	var l []twist
	for _, full := range []string{"p.q.M.a", "p.q.M.x", "U.a", "p.q.e1", "e"} {
		for kind := 1; kind <= 18; kind++ {
			if kind == 10 || kind == api.TMessage || kind == api.TEnum {
				continue
			}
			for _, text := range []string{"", "0", "-1", "4294967295", "true", "E1", "1.5"} {
				if check.Default(kind, text) {
					l = append(l, twist{"", 0, plain(full, kind, text)})
				} else {
					l = append(l, twist{full, 12, plain(full, kind, text)})
				}
			}
		}
		l = append(l, twist{full, 12, func(f files) { f.field(full).Has, f.field(full).Default = false, "1" }})
	}
	l = append(l,
		twist{"", 0, worth("p.q.M.e", "E3")}, twist{"p.q.M.e", 12, worth("p.q.M.e", "E4")}, twist{"p.q.M.e", 12, worth("p.q.M.e", "")},
		twist{"p.q.M.e", 12, worth("p.q.M.e", "I0")}, twist{"p.q.M.e", 12, worth("p.q.M.e", "1")}, twist{"p.q.M.e", 12, worth("p.q.M.e", "p.q.E0")},
		twist{"", 0, worth("U.c", "E0")}, twist{"U.c", 12, worth("U.c", "F0")},
		twist{"", 0, worth("p.q.e3", "E1")}, twist{"p.q.e3", 12, worth("p.q.e3", "I1")},
		twist{"p.q.M.y", 12, worth("p.q.M.y", "")}, twist{"p.q.M.y", 12, worth("p.q.M.y", "E0")}, twist{"U.a", 12, worth("U.a", "true")},
		// Only what is optional has one; what proto3 says has none.
		twist{"p.q.M.c", 12, worth("p.q.M.c", "text")}, twist{"p.q.M.b", 12, worth("p.q.M.b", "")},
		twist{"p.q.M.b", 12, plain("p.q.M.b", api.TString, "text")}, twist{"p.q.M.in", 12, worth("p.q.M.in", "I0")}, twist{"p.q.e2", 12, worth("p.q.e2", "E0")},
		twist{"U.b", 12, worth("U.b", "F0")},
		twist{"p.T.b", 12, worth("p.T.b", "text")}, twist{"p.T.a", 12, worth("p.T.a", "1")}, twist{"p.T.f", 12, worth("p.T.f", "F0")}, twist{"p.e1", 12, worth("p.e1", "F0")},
		twist{"p.T.b", 12, func(f files) { f.field("p.T.b").Default = "text" }},
		// A name that may not be is no default, though a value has it.
		twist{"p.q.M.e", 12, func(f files) { f.value("p.q.E1").Name = "1"; f.field("p.q.M.e").Default = "1" }},
	)
	holdTwists(t, l)
}

// P16.1: rule 14, of names in JSON.
func TestRule14(t *testing.T) {
	json := func(full, text string) func(f files) {
		return func(f files) { f.field(full).Json = text }
	}
	holdTwists(t, []twist{
		{"p.q.M.a", 14, json("p.q.M.a", "")},
		{"p.q.M.z", 14, json("p.q.M.z", "")},
		{"p.q.M.b", 14, json("p.q.M.b", "a")},
		{"p.q.M.b", 14, json("p.q.M.a", "b")},
		{"p.q.M.z", 14, json("p.q.M.a", "z")},
		{"", 0, json("p.q.M.a", "A")},
		{"", 0, json("p.q.M.a", "whatever it is \x00\xff")},
		{"", 0, json("p.q.M.N.i", "a")},
		{"p.q.M.MyMapEntry.key", 14, json("p.q.M.MyMapEntry.key", "")},
		{"p.q.M.MyMapEntry.value", 14, json("p.q.M.MyMapEntry.value", "key")},
		{"", 0, json("p.q.M.MyMapEntry.value", "other")},
	})
}

// P16.1: rule 16, of maps' entries.
func TestRule16(t *testing.T) {
	entry := "p.q.M.MyMapEntry"
	make16 := func(change func(m *api.Message)) twist {
		return twist{entry, 16, func(f files) { change(f.message(entry)) }}
	}
	field := func(at int, change func(f *api.Field)) twist {
		return make16(func(m *api.Message) { change(&m.Fields[at]) })
	}
	l := []twist{
		make16(func(m *api.Message) { m.Fields = nil }),
		make16(func(m *api.Message) { m.Fields = m.Fields[:1] }),
		make16(func(m *api.Message) { m.Fields = m.Fields[1:] }),
		make16(func(m *api.Message) { slices.Reverse(m.Fields) }),
		make16(func(m *api.Message) {
			m.Fields = append(m.Fields, api.Field{Name: "more", Number: 3, Label: 1, Type: 5, Json: "more"})
		}),
		make16(func(m *api.Message) { m.Nested = []api.Message{{Name: "N"}} }),
		make16(func(m *api.Message) { m.Enums = []api.Enum{{Name: "N", Values: []api.Value{{Name: "V"}}}} }),
		make16(func(m *api.Message) { m.Ranges = ranges(100, 200) }),
		make16(func(m *api.Message) { m.Reserved = ranges(100, 200) }),
		make16(func(m *api.Message) { m.Words = []string{"word"} }),
		make16(func(m *api.Message) {
			m.Extends = []api.Field{{Name: "x", Number: 160, Label: 1, Type: 5, Extendee: ".p.q.M"}}
		}),
		make16(func(m *api.Message) { m.Oneofs = []api.Oneof{{Name: "o"}} }),
		make16(func(m *api.Message) { m.Oneofs = []api.Oneof{{Name: "o"}}; m.Fields[1].Oneof = 1 }),
		{"", 0, func(f files) { f.message(entry).Options = []byte{0x38, 5, 0x40, 1} }},
		{"", 0, func(f files) { f.message(entry).Options = []byte{0x38, 0, 0x38, 1} }},
		{"", 0, func(f files) { f.message(entry).Unknown = []byte{0x38, 1} }},
		// What isn't an entry may be any message.
		{"", 0, func(f files) { f.message(entry).Options = nil; f.message(entry).Fields = nil }},
		{"", 0, func(f files) { f.message(entry).Options = []byte{0x38, 1, 0x38, 0}; f.field("p.q.M.my_map").Label = 1 }},
		{"", 0, func(f files) {
			f.message(entry).Options = []byte{0x38, 1, 0xff}
			f.field("p.q.M.my_map").Name = "other"
		}},
		// What doesn't stand in a message, or has no field.
		{"p.q.M", 16, func(f files) { f.message("p.q.M").Options = []byte{0x38, 1} }},
		{"U", 16, func(f files) { f.message("U").Options = []byte{0x38, 1}; f.message("U").Fields = nil }},
		{"p.q.MEntry", 16, func(f files) {
			m := f.l[0].Messages[0].Nested[0]
			m.Name = "MEntry"
			f.l[0].Messages = append(f.l[0].Messages, m)
		}},
		{entry, 16, func(f files) { f.field("p.q.M.my_map").TypeName = ".p.q.M.N" }},
		{entry, 16, func(f files) { f.field("p.q.M.my_map").Type, f.field("p.q.M.my_map").TypeName = 5, "" }},
		{"p.q.M.N", 16, func(f files) { f.message("p.q.M.N").Options = []byte{0x38, 1}; untyped(f, ".p.q.M.N") }},
		// Two fields of which each could be the map.
		{entry, 16, func(f files) {
			m := f.message("p.q.M")
			m.Fields = append(m.Fields, api.Field{Name: "my__map", Number: 50, Label: 3, Type: 11, TypeName: "." + entry, Json: "other"})
		}},
	}
	for at := range 2 {
		l = append(l, field(at, func(f *api.Field) { f.Name = "other" }), field(at, func(f *api.Field) { f.Number = 3 }), field(at, func(f *api.Field) { f.Number = 0 }),
			field(at, func(f *api.Field) { f.Label = 2 }), field(at, func(f *api.Field) { f.Label = 3 }), field(at, func(f *api.Field) { f.Label = 0 }),
			field(at, func(f *api.Field) { f.Has = true }), field(at, func(f *api.Field) { f.Oneof = 1 }), field(at, func(f *api.Field) { f.Oneof = -1 }))
	}
	for kind := 1; kind <= 18; kind++ {
		name := map[int]string{api.TMessage: ".p.q.M", api.TEnum: ".p.q.E"}[kind]
		typed := func(at int) func(f files) {
			return func(f files) {
				one := &f.message(entry).Fields[at]
				one.Type, one.TypeName = kind, name
			}
		}
		switch kind {
		case 10:
		case api.TDouble, api.TFloat, api.TBytes, api.TMessage, api.TEnum:
			l = append(l, twist{entry, 16, typed(0)}, twist{"", 0, typed(1)})
		default:
			l = append(l, twist{"", 0, typed(0)}, twist{"", 0, typed(1)})
		}
	}
	holdTwists(t, l)
}

// untyped takes a type away from all fields.
func untyped(f files, name string) {
	for i := range f.l {
		parts(&f.l[i], func(_ string, part any) {
			if p, is := part.(*api.Field); is && p.TypeName == name {
				p.Type, p.TypeName = api.TInt32, ""
			}
		})
	}
}

// P16.1: rule 17, of what a map's entry may be the type of.
func TestRule17(t *testing.T) {
	entry := ".p.q.M.MyMapEntry"
	typed := func(full string) func(f files) {
		return func(f files) {
			f.field(full).Type, f.field(full).TypeName, f.field(full).Has, f.field(full).Default = api.TMessage, entry, false, ""
		}
	}
	holdTwists(t, []twist{
		{"p.q.M.my_map", 17, func(f files) { f.field("p.q.M.my_map").Label = 1 }},
		{"p.q.M.my_map", 17, func(f files) { f.field("p.q.M.my_map").Label = 2 }},
		{"p.q.M.other", 17, func(f files) { f.field("p.q.M.my_map").Name = "other" }},
		{"", 0, func(f files) { f.field("p.q.M.my_map").Name = "MyMap" }},
		{"p.q.M.my_map_entry", 17, func(f files) { f.field("p.q.M.my_map").Name = "my_map_entry" }},
		{"p.q.M.my_map", 17, func(f files) {
			f.message("p.q.M.MyMapEntry").Name = "Entry"
			f.field("p.q.M.my_map").TypeName = ".p.q.M.Entry"
		}},
		{"p.q.M.a", 17, typed("p.q.M.a")},
		{"p.q.M.b", 17, typed("p.q.M.b")},
		{"p.q.M.z", 17, typed("p.q.M.z")},
		{"p.q.M.my_map", 17, func(f files) { f.field("p.q.M.my_map").TypeName = ".p.q.M.N.Inner.DeepMapEntry" }},
		{"p.q.M.N.i", 17, typed("p.q.M.N.i")},
		{"p.q.M.MyMapEntry.value", 17, typed("p.q.M.MyMapEntry.value")},
		{"p.q.M.N.deep", 17, typed("p.q.M.N.deep")},
		{"p.q.M.in", 17, typed("p.q.M.in")},
		{"p.q.e1", 17, typed("p.q.e1")},
		{"p.q.e2", 17, typed("p.q.e2")},
		{"p.T.c", 17, typed("p.T.c")},
		{"U.a", 17, typed("U.a")},
		{"p.q.my_map", 17, func(f files) { typed("p.q.e2")(f); f.field("p.q.e2").Name = "my_map" }},
		{"p.q.M.N.my_map", 17, func(f files) {
			typed("p.q.M.N.i")(f)
			f.field("p.q.M.N.i").Name, f.field("p.q.M.N.i").Label = "my_map", 3
		}},
		{"p.q.M.N.my_map", 17, func(f files) { // though the entry could be this message's, by its name
			f.field("p.q.M.N.i").Name, f.field("p.q.M.N.i").Label = "my_map", 3
			f.field("p.q.M.N.my_map").TypeName, f.field("p.q.M.my_map").TypeName = ".p.q.M.N.MyMapEntry", ".p.q.M.N.MyMapEntry"
			f.message("p.q.M.MyMapEntry").Name = "N.MyMapEntry"
			f.field("p.q.M.my_map").Type, f.field("p.q.M.my_map").TypeName = 5, ""
			slices.Reverse(f.message("p.q.M").Nested)
		}},
		// Methods may have one.
		{"", 0, func(f files) { f.method("p.q.S.r").In, f.method("p.q.S.r").Out = entry, entry }},
	})
}

// P16.1: rules 18 and 19, of enums and of their values.
func TestEnums(t *testing.T) {
	name := func(full, name string) func(f files) { return func(f files) { f.value(full).Name = name } }
	number := func(full string, n int64) func(f files) { return func(f files) { f.value(full).Number = n } }
	holdTwists(t, []twist{
		{"p.q.1", 18, func(f files) { f.enum("p.q.E").Name = "1"; untyped(f, ".p.q.E"); dropDefaults(f) }},
		{"p.q.M.", 18, func(f files) { f.enum("p.q.M.In").Name = ""; untyped(f, ".p.q.M.In") }},
		{"p." + long(201), 18, func(f files) { f.enum("p.F").Name = long(201); untyped(f, ".p.F") }},
		{"p.q.M.In", 18, func(f files) { f.enum("p.q.M.In").Values = nil }},
		{"p.F", 18, func(f files) { f.enum("p.F").Values = []api.Value{} }},
		{"p.F", 18, number("p.F0", 1)},
		{"p.F", 18, number("p.F0", -1)},
		{"p.F", 18, func(f files) { slices.Reverse(f.enum("p.F").Values) }},
		{"", 0, number("p.q.E0", 7)},
		{"p.F1", 19, number("p.F1", 0)},
		{"p.q.E1", 19, number("p.q.E1", 0)},
		{"p.q.E3", 19, number("p.q.E3", -1<<31)},
		{"", 0, number("p.q.E1", 1<<31-2)},
		{"p.q.E1", 19, number("p.q.E1", 1<<31)},
		{"p.q.E2", 19, number("p.q.E2", -1<<31-1)},
		{"p.q.E1", 19, number("p.q.E1", 1<<32)},
		{"p.q.E0", 19, number("p.q.E0", math.MinInt64)},
		{"p.q.M.I1", 19, number("p.q.M.I1", 3)},
		{"p.q.M.I0", 19, number("p.q.M.I0", math.MaxInt64)},
		{"p.q.option", 19, name("p.q.E2", "option")},
		{"p.q.reserved", 19, name("p.q.E2", "reserved")},
		{"p.q.M.option", 19, name("p.q.M.I1", "option")},
		{"", 0, name("p.q.E2", "message")},
		{"", 0, name("p.q.E2", "Option")},
		{"p.q.", 19, name("p.q.E2", "")},
		{"p.q.1", 19, name("p.q.E2", "1")},
		{"p.q.a.b", 19, name("p.q.E2", "a.b")},
		{"", 0, name("p.q.E2", long(200))},
		{"p.q." + long(201), 19, name("p.q.E2", long(201))},
	})
	values := []api.Value{{Name: long(200)}}
	f := api.File{Name: "x", Package: longFull(5), Enums: []api.Enum{{Name: "fiver", Values: values}}}
	hold(t, []api.File{f}, "", 0)
	f.Enums[0].Name = "sixsix"
	hold(t, []api.File{f}, join(f.Package, "sixsix"), 18)
}

// dropDefaults takes all defaults away.
func dropDefaults(f files) {
	for i := range f.l {
		parts(&f.l[i], func(_ string, part any) {
			if p, is := part.(*api.Field); is {
				p.Has, p.Default = false, ""
			}
		})
	}
}

// P16.1: rules 20 and 21, of extensions.
func TestExtensions(t *testing.T) {
	var l []twist
	for _, full := range []string{"p.q.e1", "p.q.M.in", "p.q.M.N.deep", "p.e1", "e"} {
		scope := full[:strings.LastIndex("."+full, ".")]
		change := func(name string, rule int, change func(e *api.Field)) {
			l = append(l, twist{name, rule, func(f files) {
				e := f.field(full)
				e.Has, e.Default = false, ""
				change(e)
			}})
		}
		change("", 0, func(e *api.Field) { e.Label = 1 })
		change("", 0, func(e *api.Field) { e.Label = 3 })
		for _, label := range []int{0, 2, 4, -1} {
			change(full, 20, func(e *api.Field) { e.Label = label })
		}
		change(full, 20, func(e *api.Field) { e.Oneof = 1 })
		change(full, 20, func(e *api.Field) { e.Oneof = -1 })
		change(full, 20, func(e *api.Field) { e.Optional = true })
		change(full, 20, func(e *api.Field) { e.Json = "e" })
		change(scope+"1", 20, func(e *api.Field) { e.Name = "1" })
		change(scope, 20, func(e *api.Field) { e.Name = "" })
		change(scope+long(201), 20, func(e *api.Field) { e.Name = long(201) })
		change("", 0, func(e *api.Field) { e.Name = long(200) })
		for _, name := range []string{"", ".", "p.q.M", ".p.q", ".p.q.E", ".p.q.M.a", ".q.M", "..p.q.M", ".p.q.M ", ".p.q.e1", ".p.q.S"} {
			change(full, 21, func(e *api.Field) { e.Extendee = name })
		}
		for _, n := range []int64{0, -1, 1, 99, 200, 25, 40, 299, 301, api.MaxField - 1, api.MaxField + 1, math.MaxInt64, math.MinInt64} {
			change(full, 21, func(e *api.Field) { e.Number = n })
		}
		change("", 0, func(e *api.Field) { e.Number = 120 })
	}
	number := func(full string, n int64) func(f files) { return func(f files) { f.field(full).Number = n } }
	l = append(l,
		// What is ahead: nested messages' ones ahead of the message's, these ahead of the file's, a file's ahead of the next one's.
		twist{"p.q.M.in", 21, number("p.q.M.N.deep", 199)}, twist{"p.q.M.in", 21, number("p.q.M.in", 150)},
		twist{"p.q.e1", 21, number("p.q.e1", 150)}, twist{"p.q.e1", 21, number("p.q.M.in", 100)}, twist{"p.q.e2", 21, number("p.q.e2", 100)},
		twist{"p.e1", 21, number("p.e1", 100)}, twist{"p.e1", 21, number("p.q.e1", 101)}, twist{"e", 21, number("e", 101)}, twist{"e", 21, number("p.q.M.N.deep", 102)},
		twist{"u", 21, number("u", 100)}, twist{"", 0, number("t", 101)}, twist{"", 0, number("t", 102)},
		twist{"u", 21, func(f files) { f.message("U").Ranges = ranges(100, 19499, 19501, 20000) }},
		// What isn't seen can't be extended.
		twist{"p.q.e1", 21, func(f files) { f.field("p.q.e1").Extendee = ".U" }},
		twist{"p.q.M.in", 21, func(f files) { f.field("p.q.M.in").Extendee = ".p.T" }},
		twist{"e", 21, func(f files) {
			f.l[1].Public, f.field("U.a").TypeName, f.field("e").Type, f.field("e").TypeName = nil, ".U", 5, ""
			f.field("U.c").Type, f.field("U.c").TypeName, f.field("U.c").Has, f.field("U.c").Default = 5, "", false, ""
		}},
		// A message of proto3 has no ranges.
		twist{"e", 21, func(f files) { f.field("e").Extendee = ".p.T" }},
	)
	holdTwists(t, l)
	extended := api.File{Name: "x", Messages: []api.Message{{Name: "M", Ranges: ranges(1, 5)}}}
	f := api.File{Name: "y", Deps: []string{"x"}, Package: longFull(5), Extends: []api.Field{{Name: "fiver", Number: 1, Label: 1, Type: 5, Extendee: ".M"}}}
	hold(t, []api.File{extended, f}, "", 0)
	f.Extends[0].Name = "sixsix"
	hold(t, []api.File{extended, f}, join(f.Package, "sixsix"), 20)
}

// P16.1: rule 21, where the ranges that are asked aren't held yet: they are taken as they stand.
func TestRangesAsTheyStand(t *testing.T) {
	odd := ranges(10, 20, 5, 100, 7, 3, 30, 25, -5, -1, 1<<40, 1<<41)
	for _, c := range []struct {
		number int64
		is     bool
	}{{5, true}, {4, false}, {6, true}, {10, true}, {21, true}, {27, true}, {100, true}, {101, false}, {0, false}, {-1, true}, {-5, true}, {-6, false}, {1 << 40, true}, {1<<41 + 1, false}, {3, false}} {
		inner := api.Message{Name: "N", Extends: []api.Field{{Name: "e", Number: c.number, Label: 1, Type: 5, Extendee: ".Z"}}}
		f := api.File{Name: "x", Messages: []api.Message{inner, {Name: "Z", Ranges: odd}}}
		if c.is {
			hold(t, []api.File{f}, "Z", 6)
		} else {
			hold(t, []api.File{f}, "N.e", 21)
		}
	}
}

// P16.1: rules 22 and 23, of services and of their methods.
func TestServices(t *testing.T) {
	holdTwists(t, []twist{
		{"p.q.1", 22, func(f files) { f.service("p.q.S").Name = "1" }},
		{"p.q.", 22, func(f files) { f.service("p.q.S").Name = "" }},
		{"Z.", 22, func(f files) { f.service("Z").Name = "Z." }},
		{"p.q." + long(201), 22, func(f files) { f.service("p.q.S").Name = long(201) }},
		{"", 0, func(f files) { f.service("p.q.S").Name = long(200) }},
		{"", 0, func(f files) { f.service("p.q.S").Methods = nil }},
		{"p.q.S.1", 23, func(f files) { f.method("p.q.S.s").Name = "1" }},
		{"p.q.S.", 23, func(f files) { f.method("p.q.S.r").Name = "" }},
		{"", 0, func(f files) { f.method("p.q.S.r").Name = long(200) }},
		{"p.q.S." + long(201), 23, func(f files) { f.method("p.q.S.r").Name = long(201) }},
		{"", 0, func(f files) { f.method("p.q.S.r").Client = true }},
	})
	var l []twist
	for _, name := range []string{"", ".", "p.q.M", ".p.q.E", ".p.q.M.a", ".p.q", ".p.T", ".U", ".p.q.S", ".p.q.M.N.", "M", ".p.q.M.o"} {
		l = append(l, twist{"p.q.S.s", 23, func(f files) { f.method("p.q.S.s").In = name }},
			twist{"p.q.S.r", 23, func(f files) { f.method("p.q.S.r").Out = name }})
	}
	for _, name := range []string{".p.q.M", ".p.q.M.N.Inner", ".p.T", ".U"} {
		l = append(l, twist{"", 0, func(f files) { f.method("Z.a").In, f.method("Z.a").Out = name, name }})
	}
	holdTwists(t, l)
	// Full names of services have no limit of their own.
	f := api.File{Name: "x", Package: longFull(-1), Services: []api.Service{{Name: long(200)}}}
	hold(t, []api.File{f}, "", 0)
}

// inTurn are twists, each of a rule by itself, in the order in which rules are gone through.
func inTurn() []twist {
	option := []byte{0x38, 1}
	return []twist{
		{"a.proto", 3, func(f files) { f.l[0].Syntax = "proto2" }},
		{"b.proto", 2, func(f files) { f.l[1].Public = []int{0, 1} }},
		{"b.proto", 3, func(f files) { f.l[1].Package = "p." }},
		{"", 1, func(f files) { f.l[2].Name = "" }},
		{"c.proto", 3, func(f files) { f.l[2].Syntax = "s" }},
		{"U", 4, func(f files) { f.service("Z").Name = "U" }},
		{"p.q.M", 5, func(f files) { f.message("p.q.M").Words = []string{"q", "q"} }},
		{"p.q.M", 6, func(f files) { f.message("p.q.M").Reserved = ranges(0, 0) }},
		{"p.q.M", 16, func(f files) { f.message("p.q.M").Options = option }},
		{"p.q.M.1", 7, func(f files) { f.oneof("p.q.M.o").Name = "1" }},
		{"p.q.M.", 7, func(f files) { f.oneof("p.q.M.alone").Name = "" }},
		{"p.q.M.2", 8, func(f files) { f.message("p.q.M").Fields[0].Name = "2" }},
		{"p.q.M.a", 9, func(f files) { f.message("p.q.M").Fields[0].Number = -1 }},
		{"p.q.M.a", 10, func(f files) { f.message("p.q.M").Fields[0].Extendee = "q" }},
		{"p.q.M.a", 11, func(f files) { f.message("p.q.M").Fields[0].TypeName = "q" }},
		{"p.q.M.a", 12, func(f files) { f.message("p.q.M").Fields[0].Default = "q" }},
		{"p.q.M.a", 13, func(f files) { f.message("p.q.M").Fields[0].Oneof = 9 }},
		{"p.q.M.a", 14, func(f files) { f.message("p.q.M").Fields[0].Json = "" }},
		{"p.q.M.b", 17, func(f files) { f.field("p.q.M.b").TypeName = ".p.q.M.MyMapEntry" }},
		{"p.q.M.e", 9, func(f files) { f.field("p.q.M.e").Number = 3 }},
		{"p.q.M.MyMapEntry", 5, func(f files) { f.message("p.q.M.MyMapEntry").Words = []string{"2"} }},
		{"p.q.M.MyMapEntry", 16, func(f files) { f.message("p.q.M.MyMapEntry").Extends = make([]api.Field, 1) }},
		{"p.q.M.MyMapEntry.key", 14, func(f files) { f.field("p.q.M.MyMapEntry.key").Json = "" }},
		{"p.q.M.N.i", 9, func(f files) { f.field("p.q.M.N.i").Number = 0 }},
		{"p.q.M.N.Inner", 6, func(f files) { f.message("p.q.M.N.Inner").Ranges = ranges(2, 1) }},
		{"p.q.M.N.deep", 11, func(f files) { f.field("p.q.M.N.deep").TypeName = ".p.q.E" }},
		{"p.q.M.N.deep", 21, func(f files) { f.field("p.q.M.N.deep").Number = 1 }},
		{"p.q.M.3", 18, func(f files) { f.message("p.q.M").Enums[0].Name = "3"; untyped(f, ".p.q.M.In") }},
		{"p.q.M.I1", 19, func(f files) { f.value("p.q.M.I1").Number = 3 }},
		{"p.q.M.in", 12, func(f files) { f.field("p.q.M.in").Default = "I1" }},
		{"p.q.M.in", 20, func(f files) { f.field("p.q.M.in").Optional = true }},
		{"p.q.M.in", 21, func(f files) { f.field("p.q.M.in").Extendee = ".q" }},
		{"p.q.E1", 19, func(f files) { f.value("p.q.E1").Number = 0 }},
		{"p.q.E3", 19, func(f files) { f.value("p.q.E3").Number = 1 << 40 }},
		{"p.q.4", 22, func(f files) { f.l[0].Services[0].Name = "4" }},
		{"p.q.S.r", 23, func(f files) { f.l[0].Services[0].Methods[0].Out = "" }},
		{"p.q.S.s", 23, func(f files) { f.l[0].Services[0].Methods[1].In = "" }},
		{"p.q.e1", 12, func(f files) { f.field("p.q.e1").Default = "maybe" }},
		{"p.q.e1", 20, func(f files) { f.field("p.q.e1").Json = "j" }},
		{"p.q.e2", 21, func(f files) { f.field("p.q.e2").Number = 101; f.field("p.q.e1").Number = 101 }},
		{"p.T", 6, func(f files) { f.message("p.T").Ranges = ranges(1000, 1000) }},
		{"p.T._g", 7, func(f files) { f.field("p.T.g").Oneof = 0 }},
		{"p.T.b", 10, func(f files) { f.field("p.T.b").Label = 2 }},
		{"p.F", 18, func(f files) { f.enum("p.F").Values[0].Number = 5 }},
		{"p.F1", 19, func(f files) { f.enum("p.F").Values[1].Number = 1 << 31 }},
		{"p.e1", 20, func(f files) { f.field("p.e1").Oneof = 1 }},
		{"U.b", 12, func(f files) { f.field("U.b").Default = "F0" }},
		{"Z.a", 23, func(f files) { f.l[2].Services[0].Methods[0].Out = ".p.F" }},
		{"e", 20, func(f files) { f.field("e").Json = "e" }},
	}
}

// P16.1: of each two rules that are broken, the one that comes first is told.
func TestOrder(t *testing.T) {
	untouched := base(t)
	l := inTurn()
	for i, early := range l {
		hold(t, made(t, untouched, early), early.name, early.rule)
		for _, late := range l[i+1:] {
			f := made(t, untouched, late, early)
			got, number, err := check.Set(f)
			name := early.name
			if early.rule > 4 {
				name = renamed(name, late)
			}
			if got != name || number != early.rule || err != api.ErrCheck {
				t.Errorf("%q %d and %q %d: %q, %d, %d", early.name, early.rule, late.name, late.rule, got, number, err)
			}
		}
	}
}

// renamed answers the name of what stands in a part that the later twist gives another name.
func renamed(name string, late twist) string {
	if late.name == "p.q.4" {
		return strings.Replace(name, "p.q.S.", "p.q.4.", 1)
	}
	return name
}

// made answers files with twists; a name that is changed by one of them is changed last.
func made(t *testing.T, untouched []api.File, twists ...twist) []api.File {
	t.Helper()
	f := files{t, copied(untouched)}
	slices.SortStableFunc(twists, func(a, b twist) int { return renames(a) - renames(b) })
	for _, x := range twists {
		x.make(f)
	}
	return f.l
}

// renames answers whether a twist gives a part another name than it is found by: 0 or 1.
func renames(x twist) int {
	switch {
	case x.rule == 3, x.rule == 4, x.rule == 7, x.rule == 8, x.rule == 18, x.rule == 22:
		return 1
	}
	return 0
}

// P16.1: so many files may be, and messages within one another, and no more: ahead of all rules.
func TestLong(t *testing.T) {
	var l []api.File
	for i := range 1000 {
		l = append(l, api.File{Name: fmt.Sprint("f", i), Package: fmt.Sprint("p.q", i), Deps: namesOf(l[max(0, i-3):])})
	}
	hold(t, l, "", 0)
	refused := func(l []api.File) {
		t.Helper()
		if name, rule, err := check.Set(l); name != "" || rule != 0 || err != api.ErrLong {
			t.Errorf("%q, %d, %d", name, rule, err)
		}
	}
	refused(append(l, api.File{Name: "more"}))
	refused(make([]api.File, 1001))
	hold(t, make([]api.File, 1000), "", 1)
	refused([]api.File{{Name: ""}, {Messages: nested(65)}})
	refused([]api.File{{Name: "x", Messages: nested(65)}, {Name: "x"}})
	hold(t, []api.File{{Name: ""}, {Messages: nested(64)}}, "", 1)
	// Messages that stand within themselves have no end.
	one := []api.Message{{Name: "A"}}
	one[0].Nested = one
	refused([]api.File{{Name: "x", Messages: one}})
	two := []api.Message{{Name: "A"}, {Name: "B"}}
	two[0].Nested, two[1].Nested = two, two
	refused([]api.File{{Name: "x", Messages: two}})
}

func namesOf(l []api.File) []string {
	var names []string
	for _, f := range l {
		names = append(names, f.Name)
	}
	return names
}

// P1: of many parts it is told in a while, too.
func TestMany(t *testing.T) {
	m := api.Message{Name: "M"}
	f := api.File{Name: "x"}
	for i := range int64(30000) {
		name := fmt.Sprint("n", i)
		m.Fields = append(m.Fields, api.Field{Name: name, Number: i + 20000, Label: 1, Type: api.TMessage, TypeName: ".M", Json: name})
		m.Ranges = append(m.Ranges, api.Range{From: 1<<20 + 2*i, To: 1<<20 + 2*i})
		m.Words = append(m.Words, "w"+name)
		f.Extends = append(f.Extends, api.Field{Name: name, Number: 1<<20 + 2*i, Label: 1, Type: api.TMessage, TypeName: ".M", Extendee: ".M"})
	}
	f.Messages = []api.Message{m}
	hold(t, []api.File{f}, "", 0)
	f.Extends[29999].Number++
	hold(t, []api.File{f}, "n29999", 21)
}

// P2: the name that is told shares no memory with what was given.
func TestMemory(t *testing.T) {
	for _, x := range inTurn() {
		l := made(t, base(t), x)
		name, _, _ := check.Set(l)
		again, _, _ := check.Set(l)
		if name == "" {
			continue
		}
		at := unsafe.StringData(name)
		if at == unsafe.StringData(again) {
			t.Errorf("%q stands in the memory of another answer", name)
		}
		for _, s := range texts(reflect.ValueOf(l)) {
			from := uintptr(unsafe.Pointer(unsafe.StringData(s)))
			if here := uintptr(unsafe.Pointer(at)); from <= here && here < from+uintptr(len(s)) {
				t.Errorf("%q stands in the memory of %q", name, s)
			}
		}
	}
}

func texts(v reflect.Value) []string {
	var l []string
	switch v.Kind() {
	case reflect.String:
		l = append(l, v.String())
	case reflect.Struct:
		for i := range v.NumField() {
			l = append(l, texts(v.Field(i))...)
		}
	case reflect.Slice:
		for i := range v.Len() {
			l = append(l, texts(v.Index(i))...)
		}
	}
	return l
}

// P2: what lies behind a list's length is neither read nor written.
func TestBehindLength(t *testing.T) {
	l := base(t)
	whole := append(copied(l), api.File{Name: "a.proto"})
	leave := func(reflect.Value) {}
	length := func(by int) func(list reflect.Value) {
		return func(list reflect.Value) { list.SetLen(list.Len() + by) }
	}
	// One more part, that has nothing, at the end of each list.
	for i := range l {
		lists(reflect.ValueOf(&whole[i]).Elem(), leave, func(list reflect.Value) {
			list.Set(reflect.Append(list, reflect.Zero(list.Type().Elem())))
		})
	}
	before := copied(whole)
	cut := whole[:3]
	for i := range cut {
		lists(reflect.ValueOf(&cut[i]).Elem(), length(-1), leave)
	}
	if !slices.EqualFunc(cut, l, desc.Same) {
		t.Fatal("these aren't the same files")
	}
	hold(t, cut, "", 0)
	for i := range cut {
		lists(reflect.ValueOf(&cut[i]).Elem(), leave, length(1))
	}
	if !reflect.DeepEqual(copied(whole), before) {
		t.Error("what lies behind is changed")
	}
}

// lists changes all lists: each ahead of what stands in it, and behind that.
func lists(v reflect.Value, ahead, behind func(list reflect.Value)) {
	switch v.Kind() {
	case reflect.Struct:
		for i := range v.NumField() {
			lists(v.Field(i), ahead, behind)
		}
	case reflect.Slice:
		ahead(v)
		for i := range v.Len() {
			lists(v.Index(i), ahead, behind)
		}
		behind(v)
	}
}
