package pool_test

import (
	"fmt"
	"math"
	"reflect"
	"runtime"
	"slices"
	"strings"
	"testing"
	"unsafe"

	"glossary/api"
	"glossary/desc"
	"glossary/pool"
)

// made answers the pool of files that may be.
func made(t testing.TB, l ...api.File) *pool.Pool {
	t.Helper()
	p, full, err := pool.New(l)
	if err != api.OK || full != "" || p == nil {
		t.Fatalf("New(%+v): %v, %q, %d", l, p, full, err)
	}
	return p
}

func refuse(t *testing.T, want string, l ...api.File) {
	t.Helper()
	if p, full, err := pool.New(l); err != api.ErrSymbol || full != want || p != nil {
		t.Errorf("New(%+v): %v, %q, %d, want %q", l, p, full, err, want)
	}
}

func holdNames(t *testing.T, p *pool.Pool, want ...string) {
	t.Helper()
	if got := p.Names(); !slices.Equal(got, want) {
		t.Errorf("Names: %q, want %q", got, want)
	}
}

// parts answer lists of parts by their names.
func messages(said ...string) []api.Message {
	var l []api.Message
	for _, name := range said {
		l = append(l, api.Message{Name: name})
	}
	return l
}

func fields(said ...string) []api.Field {
	var l []api.Field
	for _, name := range said {
		l = append(l, api.Field{Name: name})
	}
	return l
}

func oneofs(said ...string) []api.Oneof {
	var l []api.Oneof
	for _, name := range said {
		l = append(l, api.Oneof{Name: name})
	}
	return l
}

// enum answers one with its values.
func enum(name string, values ...string) api.Enum {
	e := api.Enum{Name: name}
	for _, v := range values {
		e.Values = append(e.Values, api.Value{Name: v})
	}
	return e
}

// service answers one with its methods.
func service(name string, methods ...string) api.Service {
	s := api.Service{Name: name}
	for _, m := range methods {
		s.Methods = append(s.Methods, api.Method{Name: m})
	}
	return s
}

// nested answers so many messages within one another.
func nested(deep int) []api.Message {
	var l []api.Message
	for i := range deep {
		l = []api.Message{{Name: fmt.Sprint("m", deep-i), Nested: l}}
	}
	return l
}

// all answers a file with each kind of part, in each place that it may have.
func all(pack string) api.File {
	return api.File{
		Name: "all", Package: pack, Deps: []string{"x", "y"}, Public: []int{1},
		Messages: []api.Message{{
			Name: "M", Fields: fields("f", "g"), Oneofs: oneofs("o"),
			Nested: []api.Message{{Name: "N", Fields: fields("f"), Enums: []api.Enum{enum("F", "F0")}, Extends: fields("e")}},
			Enums:  []api.Enum{enum("E", "E0", "E1")}, Extends: fields("e"),
		}},
		Enums:    []api.Enum{enum("E", "E0", "E1")},
		Services: []api.Service{service("S", "r", "s")},
		Extends:  fields("e"),
	}
}

// allKinds is what all names, behind its package.
const allKinds = `M 2, M.f 5, M.g 5, M.o 7, M.N 2, M.N.f 5, M.N.F 3, M.N.F0 4, M.N.e 6, M.E 3, M.E0 4, M.E1 4, M.e 6, E 3, E0 4, E1 4, S 8, S.r 9, S.s 9, e 6`

// P14.1, P14.2: the chapter's example.
func TestExample(t *testing.T) {
	p := made(t, api.File{Package: "a.b", Messages: messages("M")})
	if p.Kind("a") != api.SymPackage || p.Kind("a.b.M") != api.SymMessage {
		t.Errorf("%d, %d", p.Kind("a"), p.Kind("a.b.M"))
	}
}

// P14.1, P14.2: which full names there are, and of which kinds.
func TestKinds(t *testing.T) {
	for _, pack := range []string{"", "p", "p.q"} {
		p := made(t, all(pack))
		want := map[string]int{}
		for word := range strings.SplitSeq(allKinds, ", ") {
			var name string
			var kind int
			fmt.Sscan(word, &name, &kind)
			if pack != "" {
				name = pack + "." + name
			}
			want[name] = kind
		}
		for at, sign := range pack + "." {
			if sign == '.' && at > 0 {
				want[pack[:at]] = api.SymPackage
			}
		}
		got := p.Names()
		if len(got) != len(want) || !slices.IsSorted(got) {
			t.Errorf("package %q: %q", pack, got)
		}
		for _, full := range got {
			if p.Kind(full) != want[full] || p.Home(full) != "all" {
				t.Errorf("package %q: %s is %d of %q, want %d", pack, full, p.Kind(full), p.Home(full), want[full])
			}
		}
		for _, none := range []string{"x", "M.N.E", "E.E0", "p.q.r", "p.", ".p", "all", "p.q.M.", ".M", "m"} {
			if p.Kind(none) != 0 || p.Home(none) != "" {
				t.Errorf("package %q: %q is %d of %q", pack, none, p.Kind(none), p.Home(none))
			}
		}
	}
}

// P14.1: nothing at all; a nil pool, and one that nobody made.
func TestNothing(t *testing.T) {
	for _, p := range []*pool.Pool{nil, {}, new(pool.Pool), made(t), made(t, []api.File{}...)} {
		if p.Kind("") != 0 || p.Kind("a") != 0 || p.Home("") != "" || p.Home("a") != "" || p.Names() != nil || p.Units() != nil || p.Exts("") != nil || p.Exts("a") != nil {
			t.Error("there is something")
		}
		if m, is := p.Message(""); is || !reflect.DeepEqual(m, api.Message{}) {
			t.Errorf("%+v", m)
		}
		if e, is := p.Enum(""); is || !reflect.DeepEqual(e, api.Enum{}) {
			t.Errorf("%+v", e)
		}
		if f, is := p.Ext(""); is || !reflect.DeepEqual(f, api.Field{}) {
			t.Errorf("%+v", f)
		}
		if f, is := p.File(""); is || !reflect.DeepEqual(f, api.File{}) {
			t.Errorf("%+v", f)
		}
		if s, is := p.Look("a.b", "c", []string{""}, []int{0, 1, 2}); is || s != "" {
			t.Error(s)
		}
		if s := p.Short("a.b", "a.b.c", []string{""}, []int{0, 1, 2}); s != ".a.b.c" {
			t.Error(s)
		}
		if s := p.Short("", "", []string{""}, []int{0}); s != "." {
			t.Error(s)
		}
	}
	if p, full, err := pool.New(nil); p == nil || full != "" || err != api.OK {
		t.Errorf("New of nothing: %v, %q, %d", p, full, err)
	}
}

// P14.1: the order in which names come, told by what is there twice: each of these in a file, twice in a row, the first of the two in each pair being met ahead of the second.
func TestFirstTwice(t *testing.T) {
	m := func(in api.Message) api.File {
		in.Name = "M"
		return api.File{Package: "p", Messages: []api.Message{in}}
	}
	add := func(a, b api.File) api.File {
		x, y := a.Messages[0], b.Messages[0]
		return m(api.Message{Fields: append(x.Fields, y.Fields...), Oneofs: append(x.Oneofs, y.Oneofs...), Nested: append(x.Nested, y.Nested...),
			Enums: append(x.Enums, y.Enums...), Extends: append(x.Extends, y.Extends...)})
	}
	inside := []struct {
		f    api.File
		full string
	}{
		{m(api.Message{Fields: fields("a", "a")}), "p.M.a"},
		{m(api.Message{Oneofs: oneofs("b", "b")}), "p.M.b"},
		{m(api.Message{Nested: []api.Message{{Name: "c", Fields: fields("i", "i")}}}), "p.M.c.i"},
		{m(api.Message{Nested: messages("d", "d")}), "p.M.d"},
		{m(api.Message{Enums: []api.Enum{enum("e", "e")}}), "p.M.e"},
		{m(api.Message{Enums: []api.Enum{enum("f", "f0", "f0")}}), "p.M.f0"},
		{m(api.Message{Enums: []api.Enum{enum("g", "g0"), enum("g")}}), "p.M.g"},
		{m(api.Message{Extends: fields("h", "h")}), "p.M.h"},
	}
	for i, a := range inside {
		refuse(t, a.full, a.f)
		for _, b := range inside[i+1:] {
			refuse(t, a.full, add(a.f, b.f))
		}
	}
	outside := []struct {
		f    api.File
		full string
	}{
		{api.File{Messages: []api.Message{{Name: "a", Fields: fields("i", "i")}}}, "p.a.i"},
		{api.File{Messages: messages("b", "b")}, "p.b"},
		{api.File{Enums: []api.Enum{enum("c", "c")}}, "p.c"},
		{api.File{Enums: []api.Enum{enum("d", "d0", "d0")}}, "p.d0"},
		{api.File{Enums: []api.Enum{enum("e"), enum("e")}}, "p.e"},
		{api.File{Services: []api.Service{service("f", "f", "g", "g")}}, "p.f.g"},
		{api.File{Services: []api.Service{service("g"), service("g")}}, "p.g"},
		{api.File{Extends: fields("h", "h")}, "p.h"},
	}
	for i, a := range outside {
		a.f.Package = "p"
		refuse(t, a.full, a.f)
		for _, b := range outside[i+1:] {
			refuse(t, a.full, api.File{Package: "p", Messages: slices.Concat(a.f.Messages, b.f.Messages), Enums: slices.Concat(a.f.Enums, b.f.Enums),
				Services: slices.Concat(a.f.Services, b.f.Services), Extends: slices.Concat(a.f.Extends, b.f.Extends)})
			refuse(t, a.full, a.f, b.f)
		}
		// A file ahead of another, whatever is wrong in it.
		refuse(t, "p.z", api.File{Package: "p", Extends: fields("z", "z")}, a.f)
	}
}

// P14.1: a name is there whichever kind it is of, in this file or in one ahead.
func TestAcrossKinds(t *testing.T) {
	kinds := []api.File{
		{Messages: messages("a")}, {Enums: []api.Enum{enum("a")}}, {Enums: []api.Enum{enum("E", "a")}},
		{Services: []api.Service{service("a")}}, {Extends: fields("a")},
	}
	inner := []api.Message{
		{Fields: fields("a")}, {Oneofs: oneofs("a")}, {Nested: messages("a")}, {Enums: []api.Enum{enum("a")}}, {Enums: []api.Enum{enum("E", "a")}}, {Extends: fields("a")},
	}
	for _, pack := range []string{"", "p", "p.q"} {
		full := strings.TrimPrefix(pack+".a", ".")
		for i, a := range kinds {
			for k, b := range kinds {
				a.Package, b.Package = pack, pack
				if i == 2 && k == 2 {
					b.Enums = []api.Enum{enum("F", "a")}
				}
				refuse(t, full, a, b)
			}
		}
	}
	for i, a := range inner {
		for _, b := range inner[i+1:] {
			both := api.Message{Name: "M", Fields: append(a.Fields, b.Fields...), Oneofs: append(a.Oneofs, b.Oneofs...), Nested: append(a.Nested, b.Nested...),
				Enums: append(a.Enums, b.Enums...), Extends: append(a.Extends, b.Extends...)}
			refuse(t, "M.a", api.File{Messages: []api.Message{both}})
		}
	}
	// A service's method, and what stands in a message of the service's name elsewhere, can't both be: the names around them come ahead.
	refuse(t, "S", api.File{Messages: []api.Message{{Name: "S", Fields: fields("r")}}, Services: []api.Service{service("S", "r")}})
	// Values stand beside their enum, not in it.
	made(t, api.File{Enums: []api.Enum{enum("E", "V")}, Messages: []api.Message{{Name: "M", Enums: []api.Enum{enum("E", "V")}}}})
	refuse(t, "V", api.File{Enums: []api.Enum{enum("E", "V"), enum("F", "V")}})
	refuse(t, "M", api.File{Messages: messages("M"), Enums: []api.Enum{enum("E", "M")}})
	// Alike but for their letters' case, or in other scopes: no matter.
	made(t, api.File{Messages: messages("a", "A", "a_")}, api.File{Package: "p", Messages: messages("a")}, api.File{Package: "p.q", Messages: messages("a")})
}

// P14.1: packages may be there as packages, and as nothing else.
func TestPackages(t *testing.T) {
	p := made(t, api.File{Name: "x", Package: "a.b.c"}, api.File{Name: "y", Package: "a.b.d"}, api.File{Name: "z", Package: "a"}, api.File{Name: "w", Package: "a.b.c"})
	holdNames(t, p, "a", "a.b", "a.b.c", "a.b.d")
	for full, home := range map[string]string{"a": "x", "a.b": "x", "a.b.c": "x", "a.b.d": "y", "b": "", "": ""} {
		if p.Home(full) != home {
			t.Errorf("%q is in %q, want %q", full, p.Home(full), home)
		}
	}
	// Behind a name that isn't a package's.
	refuse(t, "a", api.File{Messages: messages("a")}, api.File{Package: "a"})
	refuse(t, "a", api.File{Messages: messages("a")}, api.File{Package: "a.b.c"})
	refuse(t, "a.b", api.File{Messages: []api.Message{{Name: "a", Fields: fields("b")}}}, api.File{Package: "a.b"})
	refuse(t, "a.b", api.File{Messages: []api.Message{{Name: "a", Fields: fields("b")}}}, api.File{Package: "a.b.c"})
	refuse(t, "a.b.c", api.File{Package: "a.b", Messages: messages("c")}, api.File{Package: "a.b.c", Messages: messages("d", "d")})
	refuse(t, "a.b", api.File{Package: "a", Enums: []api.Enum{enum("E", "b")}}, api.File{Package: "a.b.c"})
	// Ahead of one.
	refuse(t, "a", api.File{Package: "a.b"}, api.File{Messages: messages("a")})
	refuse(t, "a.b", api.File{Package: "a.b"}, api.File{Package: "a", Services: []api.Service{service("b")}})
	refuse(t, "a.b.c", api.File{Package: "a.b.c"}, api.File{Messages: messages("d")}, api.File{Package: "a.b", Extends: fields("c")})
	// In the same file.
	refuse(t, "a.a", api.File{Package: "a.a"}, api.File{Package: "a", Messages: messages("a")})
	made(t, api.File{Package: "a", Messages: messages("a")})
	made(t, api.File{Package: "a.b", Messages: messages("a", "b")})
	// What a later file's package is isn't known before its turn.
	refuse(t, "q", api.File{Messages: messages("a", "q", "q")}, api.File{Package: "a"})
}

// P14.1: packages and names that are no names.
func TestOddNames(t *testing.T) {
	holdNames(t, made(t, api.File{Package: ""}))
	holdNames(t, made(t, api.File{Package: "."}), ".")
	holdNames(t, made(t, api.File{Package: ".a"}), ".a")
	holdNames(t, made(t, api.File{Package: "a."}), "a", "a.")
	holdNames(t, made(t, api.File{Package: "a..b"}), "a", "a.", "a..b")
	holdNames(t, made(t, api.File{Package: "..."}), ".", "..", "...")
	holdNames(t, made(t, api.File{Package: ".", Messages: messages("")}), ".", "..")
	holdNames(t, made(t, api.File{Messages: messages("")}), "")
	holdNames(t, made(t, api.File{Messages: []api.Message{{Fields: fields("f"), Nested: messages("g")}}}), "", "f", "g")
	holdNames(t, made(t, api.File{Package: "a", Messages: []api.Message{{Fields: fields("")}}}), "a", "a.", "a..")
	holdNames(t, made(t, api.File{Messages: messages("a.b", "a", "\xff", "\x00", "é", "B")}), "\x00", "B", "a", "a.b", "é", "\xff")
	p := made(t, api.File{Name: "x", Enums: []api.Enum{{}}})
	if p.Kind("") != api.SymEnum || p.Home("") != "x" {
		t.Errorf("%d of %q", p.Kind(""), p.Home(""))
	}
	refuse(t, "", api.File{Messages: messages("", "")})
	refuse(t, "", api.File{Messages: []api.Message{{Fields: fields("")}}})
	refuse(t, "a.", api.File{Package: "a", Extends: fields("", "")})
	refuse(t, "a.b", api.File{Messages: []api.Message{{Name: "a", Fields: fields("b")}, {Name: "a.b"}}})
	refuse(t, "a", api.File{Messages: []api.Message{{Fields: fields("a")}, {Name: "a"}}})
	refuse(t, ".", api.File{Messages: messages(".")}, api.File{Package: ".."})
	refuse(t, "a.", api.File{Messages: messages("a.")}, api.File{Package: "a..b"})
}

// P14.1: 64 messages within one another may be, 65 in any file may not, ahead of all else.
func TestDeep(t *testing.T) {
	long := func(l ...api.File) {
		t.Helper()
		if p, full, err := pool.New(l); p != nil || full != "" || err != api.ErrLong {
			t.Errorf("%v, %q, %d", p, full, err)
		}
	}
	p := made(t, api.File{Messages: nested(64)})
	deepest := p.Names()[63]
	if len(p.Names()) != 64 || strings.Count(deepest, ".") != 63 || !strings.HasSuffix(deepest, ".m64") {
		t.Errorf("%d names, %q", len(p.Names()), deepest)
	}
	if m, is := p.Message("m1"); !is || desc.Deep(api.File{Messages: []api.Message{m}}) != 64 {
		t.Error("messages are missing")
	}
	long(api.File{Messages: nested(65)})
	long(api.File{Messages: append(messages("a", "b"), nested(65)...)})
	long(api.File{Messages: messages("a", "a")}, api.File{}, api.File{Messages: nested(65)})
	long(api.File{Messages: append(messages("a", "a"), nested(65)...)})
	one := messages("A")
	one[0].Nested = one
	long(api.File{Messages: one})
	two := messages("A", "B")
	two[0].Nested, two[1].Nested = two, two
	long(api.File{Messages: two})
}

// P1: lists that stand in more than one place are many messages, more than anybody can copy; what is there twice is told all the same.
func TestShared(t *testing.T) {
	var l []api.Message
	for range 26 {
		l = []api.Message{{Name: "A", Nested: l}, {Name: "A", Nested: l}}
	}
	if p, full, err := pool.New([]api.File{{Messages: append(messages("A"), l...)}}); p != nil || full != "A" || err != api.ErrSymbol {
		t.Errorf("%q, %d", full, err)
	}
	shared := []api.Message{{Name: "A", Fields: fields("f"), Enums: []api.Enum{enum("E", "V")}}}
	p := made(t, api.File{Messages: []api.Message{{Name: "B", Nested: shared}, {Name: "C", Nested: shared}}})
	holdNames(t, p, "B", "B.A", "B.A.E", "B.A.V", "B.A.f", "C", "C.A", "C.A.E", "C.A.V", "C.A.f")
}

// heap answers how many bytes are in use.
func heap() int {
	var stats runtime.MemStats
	runtime.GC()
	runtime.ReadMemStats(&stats)
	return int(stats.HeapAlloc)
}

// P1: a package of very many names takes no room by the square of its length, and neither does a scope.
func TestLongNames(t *testing.T) {
	long := strings.Repeat("a.", 30000) + "a"
	before := heap()
	p := made(t, api.File{Name: "x", Package: long, Messages: messages("M")}, api.File{Name: "y", Package: long, Messages: messages("N")})
	if p.Kind(long) != api.SymPackage || p.Kind(long[:len(long)/2|1]) != api.SymPackage || p.Home(long+".N") != "y" {
		t.Error("packages are missing")
	}
	if kept := heap() - before; kept > 100<<20 {
		t.Errorf("%d bytes are kept", kept)
	}
	kinds := []int{api.SymMessage}
	if s, is := p.Look(long, "M", []string{"x"}, kinds); !is || s != long+".M" {
		t.Error("M isn't found")
	}
	if s, is := p.Look(long, "q", []string{"x"}, kinds); is || s != "" {
		t.Error("q is found")
	}
	if s := p.Short(long, long+".M", []string{"x"}, kinds); s != "M" {
		t.Errorf("%d bytes", len(s))
	}
}

// P14.2: a symbol's home is the Name of its file, whatever that is.
func TestHome(t *testing.T) {
	p := made(t, api.File{Messages: messages("A")}, api.File{Name: "x", Messages: messages("B")}, api.File{Name: "x", Package: "p", Messages: messages("C")}, api.File{Name: "y", Package: "p", Messages: messages("D")})
	for full, home := range map[string]string{"A": "", "B": "x", "p": "x", "p.C": "x", "p.D": "y", "x": "", "y": ""} {
		if p.Home(full) != home {
			t.Errorf("%q is in %q, want %q", full, p.Home(full), home)
		}
	}
}

// P14.3: just what is of the kind, whole.
func TestParts(t *testing.T) {
	f := sample(3, true)
	p := made(t, f)
	m, inner, e, x, y := f.Messages[0], f.Messages[0].Nested[1], f.Messages[0].Enums[1], f.Messages[0].Extends[1], f.Extends[0]
	scope := f.Package + "." + m.Name
	holdParts := func(full string, want any) {
		t.Helper()
		message, isMessage := p.Message(full)
		enum, isEnum := p.Enum(full)
		ext, isExt := p.Ext(full)
		got := []any{message, enum, ext}
		empty := []any{api.Message{}, api.Enum{}, api.Field{}}
		for i, is := range []bool{isMessage, isEnum, isExt} {
			asked := reflect.TypeOf(got[i]) == reflect.TypeOf(want)
			if is != asked || asked && !reflect.DeepEqual(got[i], want) || !asked && !reflect.DeepEqual(got[i], empty[i]) {
				t.Errorf("%s is %+v, %v, want %+v", full, got[i], is, want)
			}
		}
	}
	holdParts(scope, m)
	holdParts(scope+"."+inner.Name, inner)
	holdParts(scope+"."+e.Name, e)
	holdParts(scope+"."+x.Name, x)
	holdParts(f.Package+"."+y.Name, y)
	holdParts(f.Package+"."+f.Enums[1].Name, f.Enums[1])
	for _, other := range []string{
		scope + "." + m.Fields[0].Name, scope + "." + m.Oneofs[0].Name, scope + "." + e.Values[0].Name, f.Package,
		f.Package + "." + f.Services[0].Name, f.Package + "." + f.Services[0].Name + "." + f.Services[0].Methods[0].Name, "", "none", "." + scope, m.Name,
	} {
		holdParts(other, nil)
	}
}

// P14.4: extensions by Number, then by name, wherever they stand.
func TestExts(t *testing.T) {
	ext := func(name, extendee string, number int64) api.Field {
		return api.Field{Name: name, Extendee: extendee, Number: number}
	}
	p := made(t,
		api.File{Package: "p", Messages: []api.Message{{Name: "M", Extends: []api.Field{ext("z", ".p.M", 5), ext("a", ".p.M", 9), ext("q", ".p.N", 1)},
			Nested: []api.Message{{Name: "I", Extends: []api.Field{ext("c", ".p.M", 5)}}}}},
			Extends: []api.Field{ext("b", ".p.M", 5), ext("d", ".p.M", -3), ext("e", "p.M", 1), ext("f", "", 1), ext("g", "..p.M", 1), ext("h", ".", 1), ext("i", ".M", 1)}},
		api.File{Package: "o", Extends: []api.Field{ext("y", ".p.M", 5), ext("x", ".p.M", math.MinInt64), ext("w", ".p.M", math.MaxInt64), ext("v", ".p.M", 0)}},
		api.File{Extends: []api.Field{ext("B", ".p.M", 5), ext("p2", ".none", 2), ext("p1", ".none", 2)}})
	for full, want := range map[string]string{
		"p.M":  "o.x p.d o.v B o.y p.M.I.c p.M.z p.b p.M.a o.w",
		"p.N":  "p.M.q", // no message, but what is asked
		"none": "p1 p2",
		"":     "p.h",
		".p.M": "p.g",
		"M":    "p.i",
		"p":    "", "p.M.I": "", "p.M.z": "", "q": "",
	} {
		if got := p.Exts(full); !slices.Equal(got, strings.Fields(want)) {
			t.Errorf("Exts(%q): %q, want %s", full, got, want)
		}
	}
}

// P14.4: of files of one Name the first.
func TestFile(t *testing.T) {
	f := sample(5, true)
	l := []api.File{{Name: "a", Package: "p"}, {Name: "b"}, {Name: "a", Package: "q"}, f, {Package: "r"}, {}}
	p := made(t, l...)
	for path, want := range map[string]int{"a": 0, "b": 1, f.Name: 3, "": 4} {
		if got, is := p.File(path); !is || !reflect.DeepEqual(got, l[want]) {
			t.Errorf("File(%q): %+v, %v", path, got, is)
		}
	}
	for _, path := range []string{"c", "A", "./a", "p", "a "} {
		if got, is := p.File(path); is || !reflect.DeepEqual(got, api.File{}) {
			t.Errorf("File(%q): %+v, %v", path, got, is)
		}
	}
}

// scopes is what is looked for here: M, N and E in several scopes and files.
func scopes(t testing.TB) *pool.Pool {
	return made(t,
		api.File{Name: "x", Package: "a.b", Messages: []api.Message{{Name: "M", Fields: fields("N", "f"), Nested: messages("M", "I")}}, Enums: []api.Enum{enum("E", "V")}},
		api.File{Name: "y", Package: "a", Messages: messages("M", "N", "string", "I"), Services: []api.Service{service("S", "I")}, Extends: fields("e")},
		api.File{Name: "z", Messages: messages("M", "N", "a_", "optional"), Enums: []api.Enum{enum("E")}},
		api.File{Package: "none", Messages: messages("M")})
}

func words(l ...int) []int { return l }

// P14.5: the first place, from the scope outwards, that is of one of the kinds and seen.
func TestLook(t *testing.T) {
	p := scopes(t)
	type2 := words(api.SymMessage, api.SymEnum)
	every := words(1, 2, 3, 4, 5, 6, 7, 8, 9)
	tries := []struct {
		scope, name, seen string
		kinds             []int
		want              string // - is none
	}{
		{"a.b.M", "M", "x y z", type2, "a.b.M.M"},
		{"a.b.M.M", "M", "x y z", type2, "a.b.M.M"},
		{"a.b.M.M.x.y", "M", "x y z", type2, "a.b.M.M"},
		{"a.b", "M", "x y z", type2, "a.b.M"},
		{"a", "M", "x y z", type2, "a.M"},
		{"", "M", "x y z", type2, "M"},
		{"q.r", "M", "x y z", type2, "M"},
		// What isn't seen is passed over.
		{"a.b", "M", "y z", type2, "a.M"},
		{"a.b", "M", "z", type2, "M"},
		{"a.b", "M", "q", type2, "-"},
		{"a.b", "M", "", type2, "-"},
		{"a.b", "M", "z y x", type2, "a.b.M"},
		// So is what is of another kind: N is a field in a.b.M.
		{"a.b.M", "N", "x y z", type2, "a.N"},
		{"a.b.M", "N", "x y z", every, "a.b.M.N"},
		{"a.b.M", "N", "x y z", words(api.SymField), "a.b.M.N"},
		{"a.b", "N", "x y z", words(api.SymField), "-"},
		{"a.b.M", "E", "x y z", type2, "a.b.E"},
		{"a.b.M", "E", "x y z", words(api.SymMessage), "-"},
		{"a.b.M", "E", "x y z", nil, "-"},
		{"a.b.M", "E", "x y z", words(0, -1, 10, 3, 3), "a.b.E"},
		// Names of more than one part are looked for as a whole.
		{"a.b.M", "b.M", "x y z", type2, "a.b.M"},
		{"a.b.M", "b.N", "x y z", type2, "-"},
		{"a.b.M", "M.I", "x y z", type2, "a.b.M.I"},
		{"a.b.M", "M.N", "x y z", type2, "-"},
		{"a.b.M", "a.M", "x y z", type2, "a.M"},
		// With a dot ahead: there alone.
		{"a.b", ".M", "x y z", type2, "M"},
		{"a.b", ".M", "x y", type2, "-"},
		{"a.b", ".a.M", "x y z", type2, "a.M"},
		{"a.b", "..M", "x y z", type2, "-"},
		{"a.b", ".b.M", "x y z", type2, "-"},
		// Other kinds.
		{"a.b.M", "b", "x y z", words(api.SymPackage), "a.b"},
		{"a.b.M", "a", "x", words(api.SymPackage), "a"},
		{"a.b.M", "a", "y", words(api.SymPackage), "-"}, // its home is its first file
		{"a.b.M", "V", "x", words(api.SymValue), "a.b.V"},
		{"a.b.M", "e", "y", words(api.SymExt), "a.e"},
		{"a.b.M", "S", "y", words(api.SymService), "a.S"},
		{"a.S", "I", "y", words(api.SymMethod), "a.S.I"},
		{"a.S", "I", "y", words(api.SymMessage), "a.I"},
	}
	for _, try := range tries {
		got, is := p.Look(try.scope, try.name, strings.Fields(try.seen), try.kinds)
		want := strings.TrimPrefix(try.want, "-")
		if got != want || is != (try.want != "-") {
			t.Errorf("Look(%q, %q, %s, %v): %q, %v, want %s", try.scope, try.name, try.seen, try.kinds, got, is, try.want)
		}
	}
}

// P14.5: what isn't there is no symbol of kind 0 in a file without a name.
func TestLookNone(t *testing.T) {
	p := scopes(t)
	for _, name := range []string{"q", "", ".", ".q", "M.q"} {
		if s, is := p.Look("a.b", name, []string{"", "x", "y", "z"}, words(0, 1, 2)); is || s != "" {
			t.Errorf("%q: %q", name, s)
		}
	}
	if s, is := p.Look("none", "M", []string{""}, words(api.SymMessage)); !is || s != "none.M" {
		t.Errorf("%q, %v", s, is)
	}
	// Empty names are names.
	p = made(t, api.File{Name: "x", Messages: messages(""), Extends: fields("b.")}, api.File{Name: "y", Package: "a", Enums: []api.Enum{enum("")}})
	for scope, want := range map[string]string{"": "", "a": "a.", "a.q": "a.", "q": "", "b": "b.", "a.": "a."} {
		if s, is := p.Look(scope, "", []string{"x", "y"}, words(2, 3, 6)); !is || s != want {
			t.Errorf("from %q: %q, %v, want %q", scope, s, is, want)
		}
	}
	if s, is := p.Look("a", ".", []string{"x", "y"}, words(2, 3)); !is || s != "" {
		t.Errorf("%q, %v", s, is)
	}
}

// P14.7: the shortest end that is found as the name.
func TestShort(t *testing.T) {
	p := scopes(t)
	type2 := words(api.SymMessage, api.SymEnum)
	tries := []struct {
		scope, full, seen string
		kinds             []int
		want              string
	}{
		{"a.b", "a.b.M", "x y z", type2, "M"},
		{"a.b.M", "a.b.M", "x y z", type2, "b.M"}, // there M is a.b.M.M, and so is M.M
		{"a.b.M", "a.b.M.M", "x y z", type2, "M"},
		{"a.b", "a.b.M.M", "x y z", type2, "M.M"},
		{"a", "a.b.M.M", "x y z", type2, "b.M.M"},
		{"", "a.b.M.M", "x y z", type2, "a.b.M.M"},
		{"q", "a.b.M.M", "x y z", type2, "a.b.M.M"},
		{"a.b", "a.M", "x y z", type2, "a.M"},
		{"a.b", "a.M", "y z", type2, "M"}, // what shades it isn't seen
		{"a", "a.M", "x y z", type2, "M"},
		{"a.b", "M", "x y z", type2, ".M"},
		{"a", "M", "z", type2, "M"},
		{"", "M", "x y z", type2, "M"},
		{"a.b.M", "a.N", "x y z", type2, "N"}, // what shades it is a field
		{"a.b.M", "a.N", "x y z", words(api.SymMessage, api.SymField), "a.N"},
		{"a.b", "a.b.E", "x", type2, "E"},
		{"a.b", "a.b.E", "x", words(api.SymMessage), ".a.b.E"},
		{"a.b", "a.b.E", "y z", type2, ".a.b.E"},
		{"a.b", "a.b.E", "x", nil, ".a.b.E"},
		{"a.b", "E", "x y z", type2, ".E"},
		// What isn't there, or isn't said so.
		{"a.b", "a.b.q", "x y z", type2, ".a.b.q"},
		{"a.b", "b.M", "x y z", type2, ".b.M"},
		{"a.b", ".a.b.M", "x y z", type2, "..a.b.M"},
		{"a.b", "", "x y z", type2, "."},
		{"a.b", "q", "x y z", words(0), ".q"},
		// Words of the language aren't the first name.
		{"a", "a.string", "x y z", type2, "a.string"},
		{"a.b.M", "a.string", "x y z", type2, "a.string"},
		{"", "optional", "x y z", type2, ".optional"},
		{"a", "optional", "z", type2, ".optional"},
		{"", "a_", "z", type2, "a_"},
	}
	for _, try := range tries {
		if got := p.Short(try.scope, try.full, strings.Fields(try.seen), try.kinds); got != try.want {
			t.Errorf("Short(%q, %q, %s, %v): %q, want %q", try.scope, try.full, try.seen, try.kinds, got, try.want)
		}
	}
}

// P14.7: words as packages and within an end; names that are none.
func TestShortOdd(t *testing.T) {
	p := made(t, api.File{Name: "x", Package: "max.rpc", Messages: []api.Message{{Name: "M", Nested: messages("to")}}},
		api.File{Name: "x", Package: "o", Messages: messages("", ".q", "d..e", "messages")})
	kinds := words(api.SymMessage)
	for _, try := range [][3]string{
		{"max.rpc", "max.rpc.M", "M"},
		{"max", "max.rpc.M", ".max.rpc.M"}, // neither rpc.M nor max.rpc.M
		{"", "max.rpc.M", ".max.rpc.M"},
		{"max.rpc.M", "max.rpc.M.to", "M.to"},
		{"o", "o.messages", "messages"},
		{"o", "o.", ""}, // what stands behind the dot
		{"", "o.", "o."},
		{"o", "o..q", "o..q"}, // .q is one with a dot ahead; q isn't in o
		{"", "o..q", "o..q"},
		{"o.", "o..q", "q"},
		{"o", "o.d..e", "d..e"},
		{"o.d", "o.d..e", "d..e"},
		{"o.d.", "o.d..e", "e"},
	} {
		if got := p.Short(try[0], try[1], []string{"x"}, kinds); got != try[2] {
			t.Errorf("Short(%q, %q): %q, want %q", try[0], try[1], got, try[2])
		}
	}
}

// P14.8: all files in order, those of one Name too, as they are.
func TestUnits(t *testing.T) {
	p := made(t, api.File{Name: "b", Deps: []string{"a", "", "a"}, Public: []int{2, 0, -1, 9}}, api.File{Name: "a", Package: "p"}, api.File{}, api.File{Name: "b", Deps: []string{"c"}})
	want := []api.Unit{{Path: "b", Deps: []string{"a", "", "a"}, Public: []int{2, 0, -1, 9}}, {Path: "a"}, {}, {Path: "b", Deps: []string{"c"}}}
	if got := p.Units(); !reflect.DeepEqual(got, want) {
		t.Errorf("%+v, want %+v", got, want)
	}
}

// P14.6: the last field 7 that is a number, if all of the Options are read.
func TestEntry(t *testing.T) {
	for b, want := range map[string]bool{
		"":             false,
		"\x38\x01":     true,
		"\x38\x00":     false,
		"\x38\x02":     true,
		"\x38\x80\x00": false,
		"\x38\x80\x01": true,
		"\x38\xff\xff\xff\xff\xff\xff\xff\xff\xff\x01": true,
		"\x38\x80\x80\x80\x80\x80\x80\x80\x80\x80\x01": true,
		"\x38\x01\x38\x00":                     false,
		"\x38\x00\x38\x01":                     true,
		"\x38\x01\x18\x00":                     true,
		"\x18\x01":                             false,
		"\x40\x01":                             false,
		"\xb8\x00\x01":                         true, // field 7 in a longer tag
		"\xb8\x01\x01":                         false,
		"\x3a\x01\x01":                         false, // WireLen
		"\x3d\x01\x00\x00\x00":                 false, // WireI32
		"\x39\x01\x00\x00\x00\x00\x00\x00\x00": false, // WireI64
		"\x38\x01\x3a\x00":                     true,
		"\x38\x01\x3d\x00\x00\x00\x00":         true,
		"\x3a\x02\x38\x01":                     false, // within another field
		"\x38\x01\x38":                         false, // not all of them are read
		"\x38\x01\x00":                         false,
		"\x38\x01\x12\x05a":                    false,
		"\x38\x01\x3b":                         false,
		"\x12\x02ab\x38\x01\x1a\x00":           true,
	} {
		if got := pool.Entry(api.Message{Options: []byte(b)}); got != want {
			t.Errorf("Entry of %x: %v", b, got)
		}
	}
	if pool.Entry(api.Message{Name: "AEntry", Unknown: []byte("\x38\x01"), Nested: []api.Message{{Options: []byte("\x38\x01")}}}) {
		t.Error("Entry asks something else")
	}
	if pool.Entry(api.Message{Options: []byte("\x38\x01")[:0]}) || !pool.Entry(api.Message{Options: []byte("\x38\x01\x38\x00")[:2]}) {
		t.Error("Entry reads behind the length")
	}
}

// span is memory, from byte to byte.
type span struct {
	from, to uintptr
}

// memory answers that of all lists, as far as they have room, and of all texts.
func memory(v reflect.Value) []span {
	var l []span
	switch v.Kind() {
	case reflect.Struct:
		for i := range v.NumField() {
			l = append(l, memory(v.Field(i))...)
		}
	case reflect.Slice:
		if v.Cap() > 0 {
			l = append(l, span{v.Pointer(), v.Pointer() + uintptr(v.Cap())*v.Type().Elem().Size()})
		}
		for i := range v.Len() {
			l = append(l, memory(v.Index(i))...)
		}
	case reflect.String:
		if v.Len() > 0 {
			from := uintptr(unsafe.Pointer(unsafe.StringData(v.String())))
			l = append(l, span{from, from + uintptr(v.Len())})
		}
	}
	return l
}

// answers are all that a pool tells.
func answers(p *pool.Pool, l []api.File) []any {
	var told []any
	all, seen := p.Names(), []string{}
	for _, f := range l {
		seen = append(seen, f.Name)
		file, _ := p.File(f.Name)
		told = append(told, file)
	}
	told = append(told, all, p.Units())
	for _, full := range all {
		m, _ := p.Message(full)
		e, _ := p.Enum(full)
		f, _ := p.Ext(full)
		found, _ := p.Look("q", full, seen, words(1, 2, 3, 4, 5, 6, 7, 8, 9))
		absolute, _ := p.Look("q", "."+full, seen, words(1, 2, 3, 4, 5, 6, 7, 8, 9))
		told = append(told, m, e, f, found, absolute, p.Home(full), p.Exts(full), p.Short(full, full, seen, words(2, 3, 4)))
	}
	return told
}

// P2: neither answers nor arguments nor what is kept share memory.
func TestMemory(t *testing.T) {
	var l []api.File
	for seed := range uint64(4) {
		f := sample(seed, true)
		f.Extends[0].Extendee = "." + f.Package + "." + f.Messages[0].Name
		l = append(l, f)
	}
	p := made(t, l...)
	given := copied(l)
	// What nothing holds any more may lie where what comes later does.
	held := append(answers(p, l), answers(p, l)...)
	var spans []span
	for _, part := range held {
		spans = append(spans, memory(reflect.ValueOf(part))...)
	}
	spans = append(spans, memory(reflect.ValueOf(l))...)
	l[0].Messages[0].Fields[1].Name = l[0].Messages[0].Fields[0].Name
	_, full, err := pool.New(l)
	if err != api.ErrSymbol {
		t.Fatal(err)
	}
	spans = append(spans, memory(reflect.ValueOf(full))...)
	runtime.KeepAlive(held)
	slices.SortFunc(spans, func(a, b span) int { return int(a.from) - int(b.from) })
	for i := range spans[1:] {
		if spans[i].to > spans[i+1].from {
			t.Fatalf("%x and %x share memory", spans[i], spans[i+1])
		}
	}
	if len(spans) < 10000 {
		t.Errorf("only %d lists and texts", len(spans))
	}
	// What is done to arguments and answers changes nothing that is kept.
	want := fmt.Sprint(answers(p, given))
	for _, part := range append(answers(p, given), l) {
		v := reflect.New(reflect.TypeOf(part)).Elem()
		v.Set(reflect.ValueOf(part))
		scribble(v)
	}
	if fmt.Sprint(answers(p, given)) != want {
		t.Error("what is kept is changed")
	}
}

// scribble writes into every list, behind its length too.
func scribble(v reflect.Value) {
	switch v.Kind() {
	case reflect.Struct:
		for i := range v.NumField() {
			scribble(v.Field(i))
		}
	case reflect.Slice:
		for i := range v.Len() {
			scribble(v.Index(i))
		}
		room := v.Slice(0, v.Cap())
		for i := range room.Len() {
			room.Index(i).SetZero()
		}
	}
}

// P2: nothing that is given is changed, and what lies behind a length isn't read.
func TestBehindLength(t *testing.T) {
	l := []api.File{{Name: "x", Messages: messages("A", "B", "A"), Extends: fields("e", "A")}, {Name: "y", Messages: messages("A")}}
	l[0].Messages, l[0].Extends = l[0].Messages[:2], l[0].Extends[:1]
	before := copied(l)
	p := made(t, l[:1]...)
	holdNames(t, p, "A", "B", "e")
	seen, kinds := []string{"y", "x"}, []int{api.SymEnum, api.SymMessage}
	if s, is := p.Look("q", "A", seen[:1], kinds); is {
		t.Error(s)
	}
	if s, is := p.Look("q", "A", seen, kinds[:1]); is {
		t.Error(s)
	}
	if s := p.Short("q", "A", seen, kinds); s != "A" || !slices.Equal(seen, []string{"y", "x"}) || !slices.Equal(kinds, []int{api.SymEnum, api.SymMessage}) {
		t.Error(s, seen, kinds)
	}
	if !reflect.DeepEqual(l, before) || l[0].Messages[:3][2].Name != "A" || l[0].Extends[:2][1].Name != "A" {
		t.Errorf("what was given is changed: %+v", l)
	}
}
