package link_test

import (
	"reflect"
	"slices"
	"strconv"
	"strings"
	"testing"
	"unsafe"

	"glossary/api"
	"glossary/copies"
	"glossary/desc"
	"glossary/link"
	"glossary/pool"
)

// made answers the pool of files that may be.
func made(t testing.TB, l ...api.File) *pool.Pool {
	t.Helper()
	p, full, err := pool.New(l)
	if err != api.OK {
		t.Fatalf("New(%+v): %q, %d", l, full, err)
	}
	return p
}

// linked answers the file as it is with its names found.
func linked(t testing.TB, f api.File, p *pool.Pool, seen ...string) api.File {
	t.Helper()
	g, name, err := link.File(f, p, seen)
	if name != "" || err != api.OK {
		t.Fatalf("File(%+v): %q, %d", f, name, err)
	}
	return g
}

// refuse holds that a name is the first one that isn't found.
func refuse(t testing.TB, want string, f api.File, p *pool.Pool, seen ...string) {
	t.Helper()
	if g, name, err := link.File(f, p, seen); name != want || err != api.ErrName || !reflect.DeepEqual(g, api.File{}) {
		t.Errorf("%d messages, %q, %d, want %q", len(g.Messages), name, err, want)
	}
}

// messages answer a list of them by their names.
func messages(said ...string) []api.Message {
	var l []api.Message
	for _, name := range said {
		l = append(l, api.Message{Name: name})
	}
	return l
}

// field answers one whose type isn't known yet.
func field(name, typed string) api.Field {
	return api.Field{Name: name, TypeName: typed}
}

// fields answer a list of one such.
func fields(name, typed string) []api.Field {
	return []api.Field{field(name, typed)}
}

// extends answer a list of one extension.
func extends(name, extendee, typed string) []api.Field {
	return []api.Field{{Name: name, Extendee: extendee, TypeName: typed}}
}

// service answers one with a method.
func service(name, in, out string) api.Service {
	return api.Service{Name: name, Methods: []api.Method{{Name: "m", In: in, Out: out}}}
}

// nested answers so many messages within one another, the innermost with a field.
func nested(deep int, typed string) []api.Message {
	l := []api.Message{{Name: "m" + strconv.Itoa(deep), Fields: fields("f", typed)}}
	for i := deep - 1; i > 0; i-- {
		l = []api.Message{{Name: "m" + strconv.Itoa(i), Nested: l}}
	}
	return l
}

// P15.1: the chapter's example.
func TestExample(t *testing.T) {
	f := api.File{Package: "a", Messages: []api.Message{{Name: "M", Fields: fields("f", "N"), Nested: messages("N")}, {Name: "N"}}}
	got := linked(t, f, made(t, f), "")
	if g := got.Messages[0].Fields[0]; g.TypeName != ".a.M.N" || g.Type != api.TMessage {
		t.Errorf("%+v", g)
	}
}

// known are messages and enums of a name in each place: N the messages, E the enums, in the packages a.b and c, and in none.
func known() []api.File {
	places := func(pack string) api.File {
		enums := []api.Enum{{Name: "E"}}
		return api.File{
			Name: "of" + pack, Package: pack, Enums: enums,
			Messages: []api.Message{{Name: "M", Nested: append(messages("N"), api.Message{Name: "O", Nested: messages("N"), Enums: enums}), Enums: enums}, {Name: "N"}},
		}
	}
	return []api.File{places("a.b"), places("c"), {Name: "of", Messages: messages("N", "a.N"), Enums: []api.Enum{{Name: "E"}, {Name: "a.E"}}}}
}

// P15.1: what a field's type finds, from which scope; where the scope hasn't it, the one around it.
func TestFields(t *testing.T) {
	p := made(t, known()...)
	all := []string{"of", "ofc", "ofa.b"}
	for _, c := range []struct {
		pack, outside, inside, name string
		seen                        []string
		want                        string // from the message inside, from the one around it, from the package
		kind                        int
	}{
		{"a.b", "M", "O", "N", all, "a.b.M.O.N a.b.M.N a.b.N", api.TMessage},
		{"a.b", "M", "O", "E", all, "a.b.M.O.E a.b.M.E a.b.E", api.TEnum},
		{"c", "M", "O", "N", all, "c.M.O.N c.M.N c.N", api.TMessage},
		{"c", "M", "O", "E", all, "c.M.O.E c.M.E c.E", api.TEnum},
		{"a.b", "M", "O", ".c.M.N", all, "c.M.N c.M.N c.M.N", api.TMessage},
		{"a.b", "M", "O", ".N", all, "N N N", api.TMessage},
		{"a.b", "M", "O", "M.N", all, "a.b.M.N a.b.M.N a.b.M.N", api.TMessage},
		{"a.b", "M", "O", "O.N", all, "a.b.M.O.N a.b.M.O.N", api.TMessage},
		{"a.b", "M", "O", "b.E", all, "a.b.E a.b.E a.b.E", api.TEnum},
		{"a.b", "M", "O", "c.E", all, "c.E c.E c.E", api.TEnum},
		{"a.b", "X", "Y", "N", all, "a.b.N a.b.N a.b.N", api.TMessage},
		{"a.b", "X", "O", "E", all, "a.b.E a.b.E a.b.E", api.TEnum},
		{"a", "X", "Y", "N", all, "a.N a.N a.N", api.TMessage},
		{"a.q", "X", "Y", "E", all, "a.E a.E a.E", api.TEnum},
		{"q", "X", "Y", "N", all, "N N N", api.TMessage},
		{"", "X", "Y", "E", all, "E E E", api.TEnum},
		{"a.b", "M", "O", "N", []string{"of", "ofc"}, "a.N a.N a.N", api.TMessage},
		{"a.b", "M", "O", "E", []string{"of"}, "a.E a.E a.E", api.TEnum},
	} {
		want := strings.Fields(c.want)
		typed := field("f", c.name)
		extension := api.Field{Name: "e", Extendee: ".N", TypeName: c.name}
		f := api.File{Name: "x", Package: c.pack, Messages: []api.Message{{Name: c.outside, Fields: []api.Field{typed}, Extends: []api.Field{extension},
			Nested: []api.Message{{Name: c.inside, Fields: []api.Field{typed}, Extends: []api.Field{extension}}}}}}
		if len(want) > 2 {
			f.Extends = []api.Field{extension}
		}
		g := linked(t, f, p, c.seen...)
		outer := g.Messages[0]
		inner := outer.Nested[0]
		got := []api.Field{inner.Fields[0], inner.Extends[0], outer.Fields[0], outer.Extends[0]}
		got = append(got, g.Extends...)
		for i, h := range got {
			if h.Type != c.kind || h.TypeName != "."+want[i/2] {
				t.Errorf("%q in %s, %s: %d: %+v, want %s", c.name, c.pack, c.outside, i, h, want[i/2])
			}
		}
		if len(want) < 3 {
			f.Extends = []api.Field{extension}
			refuse(t, c.name, f, p, c.seen...)
		}
	}
}

// P15.1: only messages and enums are a field's type: other symbols are gone by, farther out something may be found.
func TestKinds(t *testing.T) {
	f := api.File{Name: "x", Package: "a", Messages: []api.Message{
		{Name: "M", Fields: []api.Field{field("T", "T"), field("u", "U"), field("b", "b"), field("q", "q")}, Oneofs: []api.Oneof{{Name: "U"}}},
		{Name: "L", Fields: []api.Field{field("f", "T"), field("g", "V"), field("h", "W")}, Enums: []api.Enum{{Name: "E", Values: []api.Value{{Name: "T"}}}}, Extends: extends("V", "T", "U")},
		{Name: "U"}, {Name: "T"}, {Name: "V"}, {Name: "b"},
	}, Services: []api.Service{{Name: "W"}}}
	p := made(t, f, api.File{Name: "y", Package: "a.q"}, api.File{Name: "z", Messages: messages("W", "q")})
	g := linked(t, f, p, "x", "y", "z")
	var got []string
	for _, m := range g.Messages {
		for _, f := range m.Fields {
			got = append(got, f.TypeName)
		}
	}
	if want := strings.Fields(".a.T .a.U .a.b .q .a.T .a.V .W"); !slices.Equal(got, want) {
		t.Errorf("%q, want %q", got, want)
	}
	for _, name := range []string{"a", ".a.q", "a.q", "M.u", "M.U", "M.T", "L.V", ".a.W", "L.T", "M.q", "a.M.b", "", ".", "a.", ".a.", "..a.T", "a..T", " T", "t"} {
		refuse(t, name, api.File{Package: "a", Messages: []api.Message{{Name: "X", Fields: fields("f", name)}}}, p, "x", "y", "z")
	}
}

// P15.1: an Extendee, In and Out are messages, and no enums, nor anything else.
func TestMessagesAlone(t *testing.T) {
	f := api.File{Name: "x", Package: "a", Messages: []api.Message{{Name: "M", Enums: []api.Enum{{Name: "N"}}}, {Name: "N"}}, Enums: []api.Enum{{Name: "E"}}}
	p := made(t, f, api.File{Name: "y", Messages: messages("E")})
	asked := api.File{Name: "z", Package: "a",
		Messages: []api.Message{{Name: "M", Extends: append(extends("e", "N", "N"), extends("f", "E", "E")...)}},
		Services: []api.Service{service("S", "N", "E"), service("T", "E", ".a.N"), service("U", "a.N", "M")},
		Extends:  append(extends("e", "E", "E"), extends("f", "a.M", "M.N")...)}
	g := linked(t, asked, p, "x", "y")
	want := api.File{Name: "z", Package: "a",
		Messages: []api.Message{{Name: "M", Extends: append(extends("e", ".a.N", ".a.M.N"), extends("f", ".E", ".a.E")...)}},
		Services: []api.Service{service("S", ".a.N", ".E"), service("T", ".E", ".a.N"), service("U", ".a.N", ".a.M")},
		Extends:  append(extends("e", ".E", ".a.E"), extends("f", ".a.M", ".a.M.N")...)}
	for _, l := range [][]api.Field{want.Messages[0].Extends, want.Extends} {
		for i := range l {
			l[i].Type = api.TEnum
		}
	}
	if !reflect.DeepEqual(g, want) {
		t.Errorf("%+v, want %+v", g, want)
	}
	for _, name := range []string{"E", "M.N", ".a.E", "a", "", "Q", "a.q"} {
		if name != "" {
			refuse(t, name, api.File{Package: "a", Extends: extends("e", name, "M")}, p, "x")
			refuse(t, name, api.File{Package: "a", Messages: []api.Message{{Name: "M", Extends: extends("e", name, "M")}}}, p, "x")
		}
		refuse(t, name, api.File{Package: "a", Services: []api.Service{service("S", name, "M")}}, p, "x")
		refuse(t, name, api.File{Package: "a", Services: []api.Service{service("S", "M", name)}}, p, "x")
	}
}

// P15.1: the scope of In and Out is the package, not the service, nor the method.
func TestMethodScope(t *testing.T) {
	f := api.File{Name: "x", Package: "a.b", Messages: messages("N", "I"), Services: []api.Service{service("S", "N", "I")}}
	p := made(t, f, api.File{Name: "y", Messages: []api.Message{{Name: "a.b.S.N"}, {Name: "a.b.S.m.I"}, {Name: "a.N"}, {Name: "I"}}})
	if m := linked(t, f, p, "x", "y").Services[0].Methods[0]; m.In != ".a.b.N" || m.Out != ".a.b.I" {
		t.Errorf("%+v", m)
	}
	if m := linked(t, f, p, "y").Services[0].Methods[0]; m.In != ".a.N" || m.Out != ".I" {
		t.Errorf("%+v", m)
	}
	refuse(t, "I", f, made(t, api.File{Name: "y", Messages: messages("a.b.S.I", "a.b.N")}), "y")
}

// P15.1: the scope of an extension's names is the message that it stands in, or the package; its own name is none.
func TestExtensionScope(t *testing.T) {
	f := api.File{Name: "x", Package: "a", Messages: []api.Message{{Name: "M", Extends: extends("e", "N", "N"), Nested: messages("N")}, {Name: "N"}}, Extends: extends("e", "N", "N")}
	p := made(t, f, api.File{Name: "y", Messages: messages("a.M.e.N", "a.e.N", "N")})
	g := linked(t, f, p, "x", "y")
	for _, c := range []struct {
		got  api.Field
		want string
	}{{g.Messages[0].Extends[0], ".a.M.N"}, {g.Extends[0], ".a.N"}} {
		if c.got.Extendee != c.want || c.got.TypeName != c.want {
			t.Errorf("%+v, want %s", c.got, c.want)
		}
	}
	// A field's own name is no scope either.
	f = api.File{Package: "a", Messages: []api.Message{{Name: "M", Fields: fields("e", "N")}}}
	if got := linked(t, f, p, "y").Messages[0].Fields[0].TypeName; got != ".N" {
		t.Error(got)
	}
}

// P15.1: fields of another Type stay, whatever their TypeName is; their Extendee is found all the same. An empty Extendee stays empty.
func TestStay(t *testing.T) {
	p := made(t, api.File{Name: "x", Messages: messages("M")})
	for _, kind := range []int{1, 2, 9, api.TMessage, api.TEnum, 10, 18, 19, -1, 1 << 40, -1 << 62} {
		for _, name := range []string{"", "M", "Q", ".M", ".Q", ".."} {
			one := api.Field{Name: "f", Type: kind, TypeName: name}
			f := api.File{Messages: []api.Message{{Name: "A", Fields: []api.Field{one}, Extends: []api.Field{one}}}, Extends: []api.Field{one}}
			if got := linked(t, f, p, "x"); !reflect.DeepEqual(got, f) {
				t.Errorf("%+v, want %+v", got, f)
			}
			if got := linked(t, f, nil); !reflect.DeepEqual(got, f) {
				t.Errorf("%+v, want %+v", got, f)
			}
			one.Extendee = "M"
			f.Extends = []api.Field{one}
			if got := linked(t, f, p, "x").Extends[0]; got.Extendee != ".M" || got.Type != kind || got.TypeName != name {
				t.Errorf("%+v", got)
			}
			refuse(t, "M", f, nil, "x")
		}
	}
	f := api.File{Extends: extends("e", "", "M")}
	if got := linked(t, f, p, "x").Extends[0]; got.Extendee != "" || got.TypeName != ".M" || got.Type != api.TMessage {
		t.Errorf("%+v", got)
	}
	// A field that isn't an extension may have an Extendee too.
	f = api.File{Messages: []api.Message{{Name: "A", Fields: extends("e", "M", "Q")}}}
	refuse(t, "Q", f, p, "x")
	f.Messages[0].Fields[0].TypeName = "M"
	if got := linked(t, f, p, "x").Messages[0].Fields[0]; got.Extendee != ".M" || got.TypeName != ".M" {
		t.Errorf("%+v", got)
	}
}

// P15.1: the order in which names are looked for, told by the first one that isn't found.
func TestOrder(t *testing.T) {
	f := api.File{
		Name: "x", Package: "a",
		Messages: []api.Message{
			{Name: "A",
				Fields: []api.Field{field("f", "1"), {Name: "i", Type: 5, TypeName: "never"}, field("g", "2")},
				Nested: []api.Message{
					{Name: "B", Fields: fields("f", "3"), Nested: []api.Message{{Name: "C", Fields: fields("f", "4"), Extends: extends("e", "5", "6")}}, Extends: extends("e", "7", "8")},
					{Name: "D", Fields: fields("f", "9")},
				},
				Extends: append(extends("e", "10", "11"), extends("g", "12", "13")...)},
			{Name: "E", Fields: fields("f", "14"), Extends: extends("e", "15", "16")},
		},
		Services: []api.Service{
			{Name: "S", Methods: []api.Method{{Name: "m", In: "17", Out: "18"}, {Name: "n", In: "19", Out: "20"}}},
			service("T", "21", "22"),
		},
		Extends: append(extends("e", "23", "24"), extends("f", "25", "26")...),
	}
	var there []string
	for i := 1; i <= 26; i++ {
		p := made(t, api.File{Name: "y", Messages: messages(there...)})
		refuse(t, strconv.Itoa(i), f, p, "x", "y")
		there = append(there, strconv.Itoa(i))
	}
	g := linked(t, f, made(t, api.File{Name: "y", Messages: messages(there...)}), "x", "y")
	if g.Extends[1].TypeName != ".26" || g.Messages[0].Nested[0].Nested[0].Extends[0].Extendee != ".5" || g.Messages[0].Fields[1].TypeName != "never" {
		t.Errorf("%+v", g)
	}
	// What comes later isn't asked: the last of them alone isn't there.
	refuse(t, "26", f, made(t, api.File{Name: "y", Messages: messages(there[:25]...)}), "y")
}

// P15.1: the name that isn't found is told as it is written, whatever it is.
func TestAsWritten(t *testing.T) {
	for _, name := range []string{"N", ".N", "a.N", ".a.b.N", "..", ".", "", "\x00\xff", "int32", strings.Repeat("long.", 400), "ä€", " "} {
		for _, p := range []*pool.Pool{nil, {}, made(t), made(t, api.File{Name: "x", Package: "a"})} {
			refuse(t, name, api.File{Package: "a", Messages: []api.Message{{Name: "M", Fields: fields("f", name)}}}, p, "x")
			refuse(t, name, api.File{Package: "a", Extends: fields("f", name)}, p, "x")
			refuse(t, name, api.File{Services: []api.Service{service("S", name, "x")}}, p, "x")
		}
	}
}

// P15.1: what isn't seen isn't found.
func TestSeen(t *testing.T) {
	f := api.File{Name: "x", Messages: []api.Message{{Name: "M", Fields: fields("f", "M")}}}
	p := made(t, f)
	for _, seen := range [][]string{nil, {}, {""}, {"y"}, {"X"}, {"x "}, {"M"}, {"y", "z"}} {
		refuse(t, "M", f, p, seen...)
	}
	for _, seen := range [][]string{{"x"}, {"y", "x"}, {"x", "x"}} {
		if got := linked(t, f, p, seen...).Messages[0].Fields[0].TypeName; got != ".M" {
			t.Error(got)
		}
	}
}

// P15.1: the pool may be of other files than the one that is linked; names are found there alone.
func TestOtherPool(t *testing.T) {
	f := api.File{Name: "x", Package: "a", Messages: []api.Message{{Name: "M", Fields: fields("f", "N"), Nested: messages("N")}}}
	p := made(t, api.File{Name: "y", Package: "a", Enums: []api.Enum{{Name: "N"}}})
	if got := linked(t, f, p, "x", "y").Messages[0].Fields[0]; got.TypeName != ".a.N" || got.Type != api.TEnum {
		t.Errorf("%+v", got)
	}
}

// P15.1: names of nothing are looked for too, but for an Extendee.
func TestNothing(t *testing.T) {
	for _, f := range []api.File{{}, {Messages: []api.Message{}, Extends: []api.Field{}}, {Messages: messages("A"), Services: []api.Service{{Name: "S", Methods: []api.Method{}}}}} {
		got := linked(t, f, nil)
		if !desc.Same(got, f) {
			t.Errorf("%+v, want %+v", got, f)
		}
	}
	p := made(t, api.File{Name: "x", Package: "a", Messages: messages("M")})
	refuse(t, "", api.File{Package: "a", Services: []api.Service{service("S", "", "M")}}, p, "x")
	refuse(t, "", api.File{Package: "a", Services: []api.Service{service("S", "M", "")}}, p, "x")
	refuse(t, "", api.File{Package: "a", Extends: extends("e", "M", "")}, p, "x")
	refuse(t, "", api.File{Package: "a", Messages: []api.Message{{Fields: []api.Field{{}}}}}, p, "x")
	// Look finds a message that has no name.
	f := api.File{Name: "x", Package: "a", Messages: messages(""), Services: []api.Service{service("S", "", ".a.")}}
	if m := linked(t, f, made(t, f), "x").Services[0].Methods[0]; m.In != ".a." || m.Out != ".a." {
		t.Errorf("%+v", m)
	}
}

// P15.1: 64 messages within one another may be, 65 may not, ahead of names that aren't found.
func TestDeep(t *testing.T) {
	f := api.File{Name: "x", Package: "a", Messages: nested(64, "m64")}
	g := linked(t, f, made(t, f), "x")
	m := g.Messages[0]
	for len(m.Nested) > 0 {
		m = m.Nested[0]
	}
	if desc.Deep(g) != 64 || strings.Count(m.Fields[0].TypeName, ".m") != 64 {
		t.Errorf("%d levels, %+v", desc.Deep(g), m)
	}
	refuse(t, "q", api.File{Messages: nested(64, "q")}, made(t, f), "x")
	long := func(f api.File) {
		t.Helper()
		if g, name, err := link.File(f, made(t), []string{"x"}); name != "" || err != api.ErrLong || !reflect.DeepEqual(g, api.File{}) {
			t.Errorf("%+v, %q, %d", g, name, err)
		}
	}
	long(api.File{Messages: nested(65, "q")})
	long(api.File{Messages: append([]api.Message{{Fields: fields("f", "q")}}, nested(65, "q")...), Services: []api.Service{service("S", "", "")}})
	one := messages("A")
	one[0].Nested = one
	long(api.File{Messages: one})
	two := messages("A", "B")
	two[0].Nested, two[1].Nested = two, two
	long(api.File{Messages: two})
}

// P1: lists that stand in more than one place are many messages, more than anybody can copy; what isn't found is told all the same.
func TestShared(t *testing.T) {
	l := []api.Message{{Name: "A", Fields: fields("f", "q")}}
	for range 26 {
		l = []api.Message{{Name: "A", Nested: l}, {Name: "B", Nested: l}}
	}
	refuse(t, "q", api.File{Messages: l}, nil)
	shared := []api.Message{{Name: "A", Fields: fields("f", "A")}}
	f := api.File{Name: "x", Messages: []api.Message{{Name: "B", Nested: shared}, {Name: "C", Nested: shared}}}
	g := linked(t, f, made(t, f), "x")
	for i, want := range []string{".B.A", ".C.A"} {
		if got := g.Messages[i].Nested[0].Fields[0].TypeName; got != want {
			t.Errorf("%q, want %q", got, want)
		}
	}
	if shared[0].Fields[0].TypeName != "A" {
		t.Error("what was given is changed")
	}
}

// span is memory, from byte to byte.
type span struct {
	from, to uintptr
}

// memory answers that of all lists, as far as they have room, and of all texts.
func memory(v reflect.Value) []span {
	var l []span
	switch v.Kind() {
	case reflect.Struct:
		for i := range v.NumField() {
			l = append(l, memory(v.Field(i))...)
		}
	case reflect.Slice:
		if v.Cap() > 0 {
			l = append(l, span{v.Pointer(), v.Pointer() + uintptr(v.Cap())*v.Type().Elem().Size()})
		}
		for i := range v.Len() {
			l = append(l, memory(v.Index(i))...)
		}
	case reflect.String:
		if v.Len() > 0 {
			from := uintptr(unsafe.Pointer(unsafe.StringData(v.String())))
			l = append(l, span{from, from + uintptr(v.Len())})
		}
	}
	return l
}

// P2: neither answers nor arguments share memory.
func TestMemory(t *testing.T) {
	var told []any
	for seed := range uint64(40) {
		l, p, seen := sample(seed)
		if p == nil {
			continue
		}
		told = append(told, l, seen)
		for _, f := range l {
			for range 2 {
				g, name, _ := link.File(f, p, seen)
				told = append(told, g, name)
			}
			if kept, is := p.File(f.Name); is {
				told = append(told, kept)
			}
		}
	}
	var spans []span
	for _, part := range told {
		spans = append(spans, memory(reflect.ValueOf(part))...)
	}
	slices.SortFunc(spans, func(a, b span) int { return int(a.from) - int(b.from) })
	for i := range spans[1:] {
		if spans[i].to > spans[i+1].from {
			t.Fatalf("%x and %x share memory", spans[i], spans[i+1])
		}
	}
	if len(spans) < 5000 {
		t.Errorf("only %d lists and texts", len(spans))
	}
}

// P2: nothing that is given is changed, and what lies behind a length is neither read nor handed out.
func TestBehindLength(t *testing.T) {
	f := api.File{
		Name: "x",
		Messages: []api.Message{
			{Name: "A", Fields: []api.Field{field("f", "A"), field("g", "q")}, Extends: append(extends("e", "A", "A"), field("h", "q"))},
			{Name: "B", Fields: fields("f", "q")},
		},
		Services: []api.Service{{Name: "S", Methods: []api.Method{{Name: "m", In: "A", Out: "A"}, {Name: "n", In: "q"}}}, service("T", "q", "q")},
		Extends:  []api.Field{field("f", "A"), field("g", "q")},
	}
	whole := copies.Way{Levels: 64}.File(f)
	cut := f
	cut.Messages, cut.Services, cut.Extends = f.Messages[:1], f.Services[:1], f.Extends[:1]
	a, s := &cut.Messages[0], &cut.Services[0]
	a.Fields, a.Extends, s.Methods = a.Fields[:1], a.Extends[:1], s.Methods[:1]
	seen := []string{"y", "x"}
	p := made(t, cut)
	g := linked(t, cut, p, seen...)
	for _, l := range [][]api.Field{g.Messages[0].Fields, g.Messages[0].Extends, g.Extends} {
		if len(l) != 1 || l[0].TypeName != ".A" {
			t.Errorf("%+v", l)
		}
		for _, behind := range l[:cap(l)][1:] {
			if !reflect.DeepEqual(behind, api.Field{}) {
				t.Errorf("%+v is handed out", behind)
			}
		}
	}
	refuse(t, "A", cut, p, seen[:1]...)
	a.Fields, a.Extends, s.Methods = a.Fields[:2], a.Extends[:2], s.Methods[:2]
	if !reflect.DeepEqual(f, whole) || !slices.Equal(seen, []string{"y", "x"}) {
		t.Error("what was given is changed")
	}
}
