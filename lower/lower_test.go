package lower_test

import (
	"bytes"
	"math"
	"math/big"
	"reflect"
	"runtime"
	"slices"
	"strconv"
	"strings"
	"testing"
	"unsafe"

	"glossary/api"
	"glossary/desc"
	"glossary/lower"
	"glossary/names"
	"glossary/node"
	"glossary/parse"
)

const plain = "double float int32 int64 uint32 uint64 sint32 sint64 fixed32 fixed64 sfixed32 sfixed64 bool string bytes"

func parsed(t *testing.T, s string) api.Node {
	t.Helper()
	n, at, err := parse.File(s)
	if err != api.OK {
		t.Fatalf("%q: %d at %d", s, err, at)
	}
	return n
}

// lowered answers what a source comes to, which must be right.
func lowered(t *testing.T, s string) (api.File, []api.Asked) {
	t.Helper()
	f, asked, at, err := lower.File(parsed(t, s), "x")
	if err != api.OK || at != 0 {
		t.Fatalf("%q: %d at %d", s, err, at)
	}
	return f, asked
}

// hold asks that a source comes to a file, whose name is x, and asks no options.
func hold(t *testing.T, s string, want api.File) {
	t.Helper()
	want.Name = "x"
	got, asked := lowered(t, s)
	if !desc.Same(got, want) {
		t.Errorf("%q\nis  %+v\nnot %+v", s, got, want)
	}
	if len(asked) != 0 {
		t.Errorf("%q asks %+v", s, asked)
	}
}

// holdFields asks that a source's one message has these fields.
func holdFields(t *testing.T, s string, want ...api.Field) {
	t.Helper()
	f, _ := lowered(t, s)
	if len(f.Messages) != 1 || !slices.EqualFunc(f.Messages[0].Fields, want, sameField) {
		t.Errorf("%q\nis  %+v\nnot %+v", s, f.Messages, want)
	}
}

func sameField(a, b api.Field) bool { return reflect.DeepEqual(a, b) }

// refuse asks for an error at the place of the ^, which is no part of the source.
func refuse(t *testing.T, s string, want api.Errno) {
	t.Helper()
	place := strings.Index(s, "^")
	s = strings.Replace(s, "^", "", 1)
	f, asked, at, err := lower.File(parsed(t, s), "x")
	if err != want || at != place {
		t.Errorf("%q: %d at %d, want %d at %d", s, err, at, want, place)
	}
	if !reflect.DeepEqual(f, api.File{}) || asked != nil {
		t.Errorf("%q: beside the error %+v, %+v", s, f, asked)
	}
}

// P13.1: the chapter's example.
func TestExample(t *testing.T) {
	hold(t, "message A { optional int32 b = 1; }", api.File{Messages: []api.Message{
		{Name: "A", Fields: []api.Field{{Name: "b", Number: 1, Label: 1, Type: 5, Json: "b"}}}}})
}

// P13.1: what isn't a tree is refused, wherever it is wrong.
func TestNoTree(t *testing.T) {
	wrong := []api.Node{
		{},
		{Kind: api.KMessage, Text: "A"},
		{Kind: api.KFile, Text: "proto4"},
		{Kind: api.KFile, At: -1},
		{Kind: api.KFile, Kids: []api.Node{{}}},
		{Kind: api.KFile, Kids: []api.Node{{Kind: 99}}},
		{Kind: api.KFile, Kids: []api.Node{{Kind: api.KMessage, Text: "1"}}},
		{Kind: api.KFile, Kids: []api.Node{{Kind: api.KMessage, Text: "A", Kids: []api.Node{{Kind: api.KField, Text: "a"}}}}},
		{Kind: api.KFile, Kids: []api.Node{{Kind: api.KMessage, Text: "A", Kids: []api.Node{{Kind: api.KMap, Text: "a", Kids: []api.Node{{Kind: api.KType, Text: "A"}}}}}}},
		{Kind: api.KFile, Kids: []api.Node{{Kind: api.KService, Text: "A", Kids: []api.Node{{Kind: api.KRpc, Text: "a"}}}}},
		{Kind: api.KFile, Kids: []api.Node{{Kind: api.KOption, At: 7}}},
		{Kind: api.KFile, Kids: slices.Repeat([]api.Node{{Kind: api.KMessage, Text: "A"}}, api.MaxNodes)},
	}
	itself := []api.Node{{Kind: api.KMessage, Text: "A", At: 3}}
	itself[0].Kids = itself
	wrong = append(wrong, api.Node{Kind: api.KFile, Kids: itself})
	for _, n := range wrong {
		f, asked, at, err := lower.File(n, "x")
		if err != api.ErrRange || at != 0 || !reflect.DeepEqual(f, api.File{}) || asked != nil {
			t.Errorf("a tree that is none: %+v, %+v, %d, %d", f, asked, at, err)
		}
	}
}

// P13.1: a tree that is refused is so ahead of what is wrong with a field of it.
func TestNoTreeFirst(t *testing.T) {
	n := parsed(t, "message A { int32 a = 1; } message B {}")
	n.Kids[1].Text = "1"
	if _, _, at, err := lower.File(n, ""); err != api.ErrRange || at != 0 {
		t.Errorf("%d at %d", err, at)
	}
}

// P13.1: name, syntax, package.
func TestHead(t *testing.T) {
	hold(t, "", api.File{})
	hold(t, "syntax = 'proto2';", api.File{})
	hold(t, "syntax = 'proto3';", api.File{Syntax: "proto3"})
	hold(t, "package a.b;", api.File{Package: "a.b"})
	for _, path := range []string{"", "a/b.proto", "\xff\x00", strings.Repeat("p", 5000)} {
		f, _, _, err := lower.File(api.Node{Kind: api.KFile}, path)
		if err != api.OK || !desc.Same(f, api.File{Name: path}) {
			t.Errorf("%.50q: %+v, %d", path, f, err)
		}
	}
}

// P13.1: imports in order, whatever they are, and the places of the public ones.
func TestImports(t *testing.T) {
	hold(t, "import 'b'; import public 'a'; package p; import ''; import public 'b'; import 'b';",
		api.File{Package: "p", Deps: []string{"b", "a", "", "b", "b"}, Public: []int{1, 3}})
	hold(t, "import public 'x';", api.File{Deps: []string{"x"}, Public: []int{0}})
	hold(t, "import 'x';", api.File{Deps: []string{"x"}})
}

// P13.1: each kind of part in its list, in order, whatever stands between.
func TestLists(t *testing.T) {
	field := api.Field{Name: "f", Number: 1, Label: 1, Type: api.TBool, Extendee: "T"}
	other := api.Field{Name: "g", Number: 2, Label: 3, TypeName: "U", Extendee: ".a.T"}
	hold(t, `service S {} enum E {} message M {} extend T { optional bool f = 1; }
		message N {} enum F {} service R {} extend .a.T { repeated U g = 2; optional bool f = 1; } message M {} enum E {}`,
		api.File{
			Messages: []api.Message{{Name: "M"}, {Name: "N"}, {Name: "M"}},
			Enums:    []api.Enum{{Name: "E"}, {Name: "F"}, {Name: "E"}},
			Services: []api.Service{{Name: "S"}, {Name: "R"}},
			Extends:  []api.Field{field, other, {Name: "f", Number: 1, Label: 1, Type: api.TBool, Extendee: ".a.T"}},
		})
	hold(t, `message A { enum E {} message M { message O {} } extend T { optional bool f = 1; }
		message N {} enum F {} extend .a.T { repeated U g = 2; } extend T {} }`,
		api.File{Messages: []api.Message{{
			Name:    "A",
			Nested:  []api.Message{{Name: "M", Nested: []api.Message{{Name: "O"}}}, {Name: "N"}},
			Enums:   []api.Enum{{Name: "E"}, {Name: "F"}},
			Extends: []api.Field{field, other},
		}}})
}

// P13.1: values, ranges, words and methods.
func TestSmallParts(t *testing.T) {
	hold(t, "enum E { A = 0; B = -2147483648; A = 2147483647; B = 0; }", api.File{Enums: []api.Enum{{
		Name: "E", Values: []api.Value{{Name: "A"}, {Name: "B", Number: math.MinInt32}, {Name: "A", Number: math.MaxInt32}, {Name: "B"}}}}})
	hold(t, "message M { extensions 5; reserved 9, 3 to 1; reserved 'a', 'b'; extensions 100 to max, 0 to 2147483647; reserved 7; reserved 'a'; }",
		api.File{Messages: []api.Message{{
			Name:     "M",
			Ranges:   []api.Range{{From: 5, To: 5}, {From: 100, To: api.MaxField}, {To: math.MaxInt32}},
			Reserved: []api.Range{{From: 9, To: 9}, {From: 3, To: 1}, {From: 7, To: 7}},
			Words:    []string{"a", "b", "a"},
		}}})
	hold(t, "service S { rpc A (int32) returns (.a.B); rpc B (stream C) returns (D); rpc C (C) returns (stream D); rpc A (stream bytes) returns (stream bytes); }",
		api.File{Services: []api.Service{{Name: "S", Methods: []api.Method{
			{Name: "A", In: "int32", Out: ".a.B"},
			{Name: "B", In: "C", Out: "D", Client: true},
			{Name: "C", In: "C", Out: "D", Server: true},
			{Name: "A", In: "bytes", Out: "bytes", Client: true, Server: true},
		}}}})
}

// P13.1: a field's number, type and type's name.
func TestFields(t *testing.T) {
	for i, word := range strings.Fields(plain) {
		number := strconv.Itoa(i)
		holdFields(t, "message M { optional "+word+" foo_bar = "+number+"; }",
			api.Field{Name: "foo_bar", Number: int64(i), Label: 1, Type: lower.Type(word), Json: "fooBar"})
	}
	for _, name := range []string{"A", "a.B", ".a", ".int32", ".int32.A", "Int32", "int32x", "group"} {
		holdFields(t, "message M { optional "+name+" f = 2147483647; }",
			api.Field{Name: "f", Number: math.MaxInt32, Label: 1, TypeName: name, Json: "f"})
	}
}

// P13.1: each label, wherever a field may stand.
func TestLabels(t *testing.T) {
	words := []string{"", "optional ", "required ", "repeated "}
	for label, word := range words {
		want := max(label, api.LabelOptional)
		field := word + "int32 f = 1; "
		holdLabel(t, "syntax = 'proto3'; message M { "+field+"}", want, label == 1, 0)
		holdLabel(t, "syntax = 'proto3'; extend M { "+field+"}", want, false, 0)
		holdLabel(t, "syntax = 'proto3'; message M { extend M { "+field+"} }", want, false, 0)
		for _, syntax := range []string{"", "syntax = 'proto2'; "} {
			if label == 0 {
				refuse(t, syntax+"message M { ^"+field+"}", api.ErrLabel)
				refuse(t, syntax+"extend M { ^"+field+"}", api.ErrLabel)
				refuse(t, syntax+"message M { extend M { ^"+field+"} }", api.ErrLabel)
				continue
			}
			holdLabel(t, syntax+"message M { "+field+"}", want, false, 0)
			holdLabel(t, syntax+"extend M { "+field+"}", want, false, 0)
			holdLabel(t, syntax+"message M { extend M { "+field+"} }", want, false, 0)
		}
	}
	for _, syntax := range []string{"", "syntax = 'proto2'; ", "syntax = 'proto3'; "} {
		holdLabel(t, syntax+"message M { oneof o { int32 f = 1; } }", 1, false, 1)
	}
}

// holdLabel asks what a source's one field is.
func holdLabel(t *testing.T, s string, label int, optional bool, oneof int) {
	t.Helper()
	f, _ := lowered(t, s)
	l := f.Extends
	for _, m := range f.Messages {
		l = slices.Concat(l, m.Fields, m.Extends)
	}
	if optional {
		oneof = 1
	}
	if len(l) != 1 || l[0].Label != label || l[0].Optional != optional || l[0].Oneof != oneof {
		t.Errorf("%q: %+v, want the label %d, optional %v, the oneof %d", s, l, label, optional, oneof)
	}
}

// P13.1: fields of a oneof know which it is, and stand among the message's.
func TestOneofs(t *testing.T) {
	f := func(name string, oneof int) api.Field {
		return api.Field{Name: name, Label: 1, Type: api.TBool, Json: name, Oneof: oneof}
	}
	hold(t, "message M { optional bool a = 0; oneof o { bool b = 0; bool c = 0; } optional bool d = 0; oneof p {} oneof o { bool e = 0; } }",
		api.File{Messages: []api.Message{{
			Name:   "M",
			Fields: []api.Field{f("a", 0), f("b", 1), f("c", 1), f("d", 0), f("e", 3)},
			Oneofs: []api.Oneof{{Name: "o"}, {Name: "p"}, {Name: "o"}},
		}}})
}

// oneofs answers, of a source's first message, the oneofs, and for each optional field its name and its oneof's.
func oneofs(t *testing.T, s string) (string, string) {
	t.Helper()
	f, _ := lowered(t, s)
	var all, of []string
	for _, o := range f.Messages[0].Oneofs {
		all = append(all, o.Name)
	}
	for _, f := range f.Messages[0].Fields {
		if f.Optional {
			of = append(of, f.Name+":"+all[f.Oneof-1])
		}
	}
	return strings.Join(all, " "), strings.Join(of, " ")
}

// P13.1: each optional field of proto3 has a oneof of its own, behind the message's, whose name nothing has.
func TestSynthetic(t *testing.T) {
	for _, row := range [][3]string{
		{"optional bool a = 1;", "_a", "a:_a"},
		{"optional bool a = 1; oneof o {}", "o _a", "a:_a"},
		{"oneof o { bool c = 1; } optional bool b = 1; bool d = 1; optional bool a = 1; oneof p {}", "o p _b _a", "b:_b a:_a"},
		{"optional bool a = 1; bool _a = 2;", "X_a", "a:X_a"},
		{"map<int32, bool> _a = 2; optional bool a = 1;", "X_a", "a:X_a"},
		{"optional bool a = 1; oneof o { bool _a = 2; bool X_a = 3; }", "o XX_a", "a:XX_a"},
		{"optional bool a = 1; oneof _a {} oneof X_a {}", "_a X_a XX_a", "a:XX_a"},
		{"optional bool a = 1; optional bool _a = 2;", "X_a __a", "a:X_a _a:__a"},
		{"optional bool a = 1; optional bool a = 2; optional bool a = 3;", "_a X_a XX_a", "a:_a a:X_a a:XX_a"},
		{"optional bool a = 1; message _a {} enum X_a {} extend E { bool _a = 3; } reserved '_a';", "_a", "a:_a"},
		{"optional bool a = 1 [json_name = '_a'];", "_a", "a:_a"},
		{"bool a = 1; repeated bool b = 2; required bool c = 3;", "", ""},
	} {
		if all, of := oneofs(t, "syntax = 'proto3'; message M { "+row[0]+" }"); all != row[1] || of != row[2] {
			t.Errorf("%q: %q, %q, want %q, %q", row[0], all, of, row[1], row[2])
		}
	}
	all, of := oneofs(t, "message M { optional bool a = 1; oneof o {} }")
	if all != "o" || of != "" {
		t.Errorf("proto2: %q, %q", all, of)
	}
}

// P13.1: names that one message has taken are free in another.
func TestSyntheticApart(t *testing.T) {
	f, _ := lowered(t, "syntax = 'proto3'; message M { message N { optional bool a = 1; } optional bool a = 1; bool _a = 2; } message O { optional bool a = 1; }")
	m := f.Messages[0]
	if m.Oneofs[0].Name != "X_a" || m.Nested[0].Oneofs[0].Name != "_a" || f.Messages[1].Oneofs[0].Name != "_a" {
		t.Errorf("%+v", f)
	}
}

// mapFile answers what a message A around another with one map comes to.
func mapFile(pack, scope, name, entry, json string) api.File {
	return api.File{Package: pack, Messages: []api.Message{{Name: "A", Nested: []api.Message{{
		Name:   "B",
		Fields: []api.Field{{Name: name, Number: 7, Label: 3, Type: api.TMessage, TypeName: scope + entry, Json: json}},
		Nested: []api.Message{{
			Name: entry,
			Fields: []api.Field{
				{Name: "key", Number: 1, Label: 1, Type: api.TString, Json: "key"},
				{Name: "value", Number: 2, Label: 1, TypeName: ".c.D", Json: "value"},
			},
			Options: []byte{0x38, 1},
		}},
	}}}}}
}

// P13.1: a map's field and the message of its entries, whose scope may be named behind it.
func TestMap(t *testing.T) {
	source := func(name string) string {
		return "message A { message B { map<string, .c.D> " + name + " = 7; } } "
	}
	hold(t, source("my_map"), mapFile("", ".A.B.", "my_map", "MyMapEntry", "myMap"))
	hold(t, "package p.q; "+source("m"), mapFile("p.q", ".p.q.A.B.", "m", "MEntry", "m"))
	hold(t, source("_m")+"package p;", mapFile("p", ".p.A.B.", "_m", "MEntry", "M"))
	hold(t, source("_"), mapFile("", ".A.B.", "_", "Entry", ""))
	for _, syntax := range []string{"", "syntax = 'proto3'; "} {
		for _, key := range strings.Fields(plain) {
			f, _ := lowered(t, syntax+"message A { map<"+key+", "+key+"> m = 1; }")
			m := f.Messages[0]
			entry := m.Nested[0].Fields
			if len(m.Oneofs) != 0 || m.Fields[0].Label != api.LabelRepeated || entry[0].Type != lower.Type(key) || entry[1].Type != lower.Type(key) || entry[0].TypeName != "" || entry[1].TypeName != "" {
				t.Errorf("a map of %s: %+v", key, m)
			}
		}
	}
}

// P13.1: entries stand among the nested messages in the order of nodes.
func TestMapOrder(t *testing.T) {
	f, asked := lowered(t, "message M { message A {} map<int32, int32> x = 1; message B { option o = 1; } map<int32, int32> x = 2 [p = 2]; message XEntry { option q = 3; } }")
	var nested []string
	for _, m := range f.Messages[0].Nested {
		nested = append(nested, m.Name)
	}
	if !slices.Equal(nested, []string{"A", "XEntry", "B", "XEntry", "XEntry"}) {
		t.Errorf("nested: %q", nested)
	}
	holdPaths(t, asked, "4 0 3 2 Message o", "4 0 2 1 Field p", "4 0 3 4 Message q")
}

// P13.1: json_name, of fields and maps; what isn't said is names.Json, of extensions nothing.
func TestJson(t *testing.T) {
	json := func(s string, want ...string) {
		t.Helper()
		f, asked := lowered(t, "message M { "+s+" }")
		var got []string
		for _, f := range slices.Concat(f.Messages[0].Fields, f.Messages[0].Extends) {
			got = append(got, f.Json)
		}
		if !slices.Equal(got, want) || len(asked) != 0 {
			t.Errorf("%q: %q, want %q; asked: %+v", s, got, want, asked)
		}
	}
	json("optional int32 foo_bar = 1; oneof o { int32 _a_ = 2; } map<int32, int32> a_b = 3;", "fooBar", "A", "aB")
	json("optional int32 foo_bar = 1 [json_name = 'q'];", "q")
	json("optional int32 a_b = 1 [json_name = ''];", "")
	json("optional int32 a_b = 1 [json_name = '\\xff\\0 q_r'];", "\xff\x00 q_r")
	json("repeated M a_b = 1 [json_name = 'q']; oneof o { int32 c_d = 1 [json_name = 'q']; } map<int32, int32> e = 1 [json_name = '@'];", "q", "q", "@")
	json("extend M { optional int32 a_b = 1; repeated M c = 2; }", "", "")
}

// P13.1: json_name that may not be.
func TestJsonFaults(t *testing.T) {
	for _, worth := range []string{"1", "-1", "true", "{}", "q"} {
		refuse(t, "message M { optional int32 a = 1 [^json_name = "+worth+"]; }", api.ErrDefault)
		refuse(t, "message M { map<int32, int32> a = 1 [json_name = 'a', ^json_name = "+worth+"]; }", api.ErrDefault)
	}
	refuse(t, "message M { optional int32 a = 1 [json_name = '', ^json_name = '']; }", api.ErrTwice)
	refuse(t, "message M { map<int32, int32> a = 1 [json_name = 'a', x = 1, ^json_name = 'b']; }", api.ErrTwice)
	refuse(t, "message M { oneof o { int32 a = 1 [json_name = 'a', ^json_name = 'b']; } }", api.ErrTwice)
	for _, worth := range []string{"'a'", "''", "1"} {
		refuse(t, "extend M { optional int32 a = 1 [^json_name = "+worth+"]; }", api.ErrDefault)
		refuse(t, "message M { extend M { repeated int32 a = 1 [x = 1, ^json_name = "+worth+"]; } }", api.ErrDefault)
	}
}

// P13.1: defaults, wherever a field may stand.
func TestDefaults(t *testing.T) {
	for _, row := range [][3]string{
		{"int32", "-0x80000000", "-2147483648"}, {"fixed64", "017", "15"}, {"bool", "false", "false"},
		{"string", "'a\\n'", "a\n"}, {"bytes", "''", ""}, {"E", "A_1", "A_1"}, {".a.E", "true", "true"},
	} {
		field := row[0] + " f = 1 [default = " + row[1] + "]; "
		for _, s := range []string{
			"message M { optional " + field + "}", "message M { required " + field + "}", "message M { oneof o { " + field + "} }",
			"extend M { optional " + field + "}", "message M { extend M { required " + field + "} }",
			"syntax = 'proto3'; message M { " + field + "}", "syntax = 'proto3'; extend M { " + field + "}",
		} {
			f, asked := lowered(t, s)
			l := f.Extends
			for _, m := range f.Messages {
				l = slices.Concat(l, m.Fields, m.Extends)
			}
			if len(l) != 1 || !l[0].Has || l[0].Default != row[2] || len(asked) != 0 {
				t.Errorf("%q: %+v; asked: %+v", s, l, asked)
			}
		}
	}
	f, _ := lowered(t, "message M { optional int32 a = 1; }")
	if f := f.Messages[0].Fields[0]; f.Has || f.Default != "" {
		t.Errorf("without a default: %+v", f)
	}
}

// P13.1: defaults that may not be.
func TestDefaultFaults(t *testing.T) {
	for _, s := range []string{
		"int32 f = 1 [^default = 'x']", "int32 f = 1 [^default = 2147483648]", "uint32 f = 1 [^default = -1]", "bool f = 1 [^default = 1]",
		"bool f = 1 [^default = True]", "string f = 1 [^default = x]", "float f = 1 [^default = 1]", "double f = 1 [^default = inf]",
		"E f = 1 [^default = 1]", "E f = 1 [^default = 'A']", "E f = 1 [^default = {}]", "int32 f = 1 [^default = {a: 1}]",
	} {
		refuse(t, "message M { optional "+s+"; }", api.ErrDefault)
		refuse(t, "message M { repeated "+s+"; }", api.ErrDefault)
		refuse(t, "message M { oneof o { "+s+"; } }", api.ErrDefault)
		refuse(t, "extend M { optional "+s+"; }", api.ErrDefault)
	}
	refuse(t, "message M { repeated int32 a = 1 [^default = 1]; }", api.ErrDefault)
	refuse(t, "extend M { repeated E a = 1 [^default = A]; }", api.ErrDefault)
	for _, worth := range []string{"1", "'a'", "true", "{}"} {
		refuse(t, "message M { map<int32, int32> a = 1 [^default = "+worth+"]; }", api.ErrDefault)
	}
	refuse(t, "message M { optional int32 a = 1 [default = 1, ^default = 1]; }", api.ErrTwice)
	refuse(t, "extend M { optional string a = 1 [default = '', x = 1, ^default = '']; }", api.ErrTwice)
	// Both apply to the second one: ErrDefault is named first.
	refuse(t, "message M { optional int32 a = 1 [default = 1, ^default = 'x']; }", api.ErrDefault)
}

// P13.1: the first error in the order of nodes.
func TestFirst(t *testing.T) {
	refuse(t, "message M { ^int32 a = 1 [default = 'x']; }", api.ErrLabel)
	refuse(t, "message M { optional int32 a = 1 [^default = 'x', json_name = 1]; }", api.ErrDefault)
	refuse(t, "message M { optional int32 a = 1 [json_name = 'x', ^json_name = 'x', default = 'x']; }", api.ErrTwice)
	refuse(t, "message M { optional int32 a = 1 [default = 1, ^default = 2]; int32 b = 1; }", api.ErrTwice)
	refuse(t, "extend M { ^int32 a = 1; } message M { optional int32 a = 1 [default = 'x']; }", api.ErrLabel)
	refuse(t, "message M { extend M { ^int32 a = 1; } optional int32 a = 1 [default = 'x']; }", api.ErrLabel)
	refuse(t, "message M { message N { optional int32 a = 1 [^default = 'x']; } int32 a = 1; }", api.ErrDefault)
	refuse(t, "message M { oneof o { int32 a = 1 [^default = 'x']; } int32 a = 1; }", api.ErrDefault)
	refuse(t, "message M { map<int32, int32> a = 1 [^default = 1]; int32 a = 1; }", api.ErrDefault)
	refuse(t, "option x = 1; message M { optional int32 a = 1; } message N { ^int32 a = 1; }", api.ErrLabel)
}

// P13.1: an error comes with the At of a node, whatever it is.
func TestAt(t *testing.T) {
	for _, place := range []int{0, 1, math.MaxInt} {
		n := parsed(t, "message M { int32 a = 1; }")
		n.Kids[0].Kids[0].At = place
		if _, _, at, err := lower.File(n, ""); at != place || err != api.ErrLabel {
			t.Errorf("%d at %d, want %d", err, at, place)
		}
		n = parsed(t, "message M { repeated int32 a = 1 [default = 1]; }")
		n.Kids[0].Kids[0].Kids[1].At = place
		if _, _, at, err := lower.File(n, ""); at != place || err != api.ErrDefault {
			t.Errorf("%d at %d, want %d", err, at, place)
		}
	}
}

// holdPaths asks what is asked: each path, of which kind, the option's last part.
func holdPaths(t *testing.T, asked []api.Asked, want ...string) {
	t.Helper()
	var got []string
	for _, a := range asked {
		var words []string
		for _, place := range a.Path {
			words = append(words, strconv.Itoa(place))
		}
		got = append(got, strings.Join(append(words, a.Of, a.Opt.Kids[len(a.Opt.Kids)-2].Text), " "))
	}
	if !slices.Equal(got, want) {
		t.Errorf("asked is\n%q, not\n%q", got, want)
	}
}

// P13.1: the path of each kind of part.
func TestPaths(t *testing.T) {
	_, asked := lowered(t, `syntax = "proto3"; option a = 1; message Z {} enum Z {} service Z {} extend Z { int32 z = 1; }
		message M { option b = 1; int32 z = 1; int32 f = 2 [c = 1]; oneof z {} oneof o { option d = 1; int32 g = 3 [e = 1]; }
			map<int32, int32> m = 4 [f = 1]; message N { option g = 1; int32 h = 1 [h = 1]; } enum Z {}
			enum E { option i = 1; A = 0; B = 1 [j = 1]; } extend Z { int32 z = 1; int32 k = 2 [k = 1]; } extend Z { int32 l = 3 [l = 1]; } }
		enum E { option m = 1; A = 0; B = 1 [n = 1]; }
		service S { option o = 1; rpc A (Z) returns (Z); rpc B (Z) returns (Z) { option p = 1; } }
		extend Z { int32 q = 2 [q = 1]; }`)
	holdPaths(t, asked, "File a", "4 1 Message b", "4 1 2 1 Field c", "4 1 8 1 Oneof d", "4 1 2 2 Field e", "4 1 2 3 Field f",
		"4 1 3 1 Message g", "4 1 3 1 2 0 Field h", "4 1 4 1 Enum i", "4 1 4 1 2 1 EnumValue j", "4 1 6 1 Field k", "4 1 6 2 Field l",
		"5 1 Enum m", "5 1 2 1 EnumValue n", "6 1 Service o", "6 1 2 1 Method p", "7 1 Field q")
}

// P13.1: a part's own options stand behind each other, ahead of those of what stands in it, parts being in the order of nodes.
func TestOwnTogether(t *testing.T) {
	_, asked := lowered(t, `syntax = "proto3"; extend Z { int32 z = 1 [a = 1]; } option b = 1;
		service S { rpc A (Z) returns (Z) { option c = 1; option d = 1; } option e = 1; }
		message M { message N { option f = 1; } option g = 1; oneof o { int32 a = 1 [h = 1, i = 1]; option j = 1; } option k = 1; }
		enum E { A = 0 [l = 1]; option m = 1; } option n = 1;`)
	holdPaths(t, asked, "File b", "File n", "7 0 Field a", "6 0 Service e", "6 0 2 0 Method c", "6 0 2 0 Method d",
		"4 0 Message g", "4 0 Message k", "4 0 3 0 Message f", "4 0 8 0 Oneof j", "4 0 2 0 Field h", "4 0 2 0 Field i",
		"5 0 Enum m", "5 0 2 0 EnumValue l")
}

// P13.1: default and json_name are asked where they aren't a field's own: in brackets, with more parts, of other parts.
func TestAsked(t *testing.T) {
	f, asked := lowered(t, `option default = 1; message M { option json_name = 1;
		optional int32 a = 1 [(default) = 1, (.json_name) = 'x', default.x = 1, x.default = 2, json_name.(x) = 3, default = 5, deprecated = true, deprecated = true]; }
		enum E { option default = 1; A = 0 [default = 1, json_name = 'x']; }`)
	holdPaths(t, asked, "File default", "4 0 Message json_name", "4 0 2 0 Field default", "4 0 2 0 Field .json_name", "4 0 2 0 Field x",
		"4 0 2 0 Field default", "4 0 2 0 Field x", "4 0 2 0 Field deprecated", "4 0 2 0 Field deprecated",
		"5 0 Enum default", "5 0 2 0 EnumValue default", "5 0 2 0 EnumValue json_name")
	if got := f.Messages[0].Fields[0]; got.Default != "5" || got.Json != "a" {
		t.Errorf("%+v", got)
	}
}

// P13.1: what is asked is the option's node, all of it.
func TestAskedNode(t *testing.T) {
	s := "option (a.b).c = { d: 1, e { f: 'g' } [.h.i]: -5 };"
	n := parsed(t, s)
	_, asked := lowered(t, s)
	if want := []api.Asked{{Of: "File", Opt: n.Kids[0]}}; !reflect.DeepEqual(asked, want) {
		t.Errorf("%+v, want %+v", asked, want)
	}
}

// P13.2: each plain type's word, and what is none.
func TestType(t *testing.T) {
	numbers := map[string]int{"double": 1, "float": 2, "int64": 3, "uint64": 4, "int32": 5, "fixed64": 6, "fixed32": 7, "bool": 8, "string": 9, "bytes": 12, "uint32": 13, "sfixed32": 15, "sfixed64": 16, "sint32": 17, "sint64": 18}
	words := map[int]string{}
	for _, word := range strings.Fields(plain) {
		if got := lower.Type(word); got != numbers[word] || got == 0 {
			t.Errorf("Type(%q) = %d, want %d", word, got, numbers[word])
		}
		words[numbers[word]] = word
		for _, near := range []string{word + " ", "." + word, strings.ToUpper(word), word[1:], word[:len(word)-1], word + "\x00"} {
			if got := lower.Type(near); got != numbers[near] {
				t.Errorf("Type(%q) = %d", near, got)
			}
		}
	}
	for _, none := range []string{"", " ", "group", "message", "enum", "A", "\xff", plain, strings.Repeat("int32", 1<<20)} {
		if got := lower.Type(none); got != 0 {
			t.Errorf("Type(%.50q) = %d", none, got)
		}
	}
	for n := -300; n <= 300; n++ {
		if got := lower.Plain(n); got != words[n] {
			t.Errorf("Plain(%d) = %q, want %q", n, got, words[n])
		}
	}
	for _, n := range []int{math.MinInt, math.MinInt + 5, math.MaxInt, 1<<32 + 5, 1 << 62} {
		if got := lower.Plain(n); got != "" {
			t.Errorf("Plain(%d) = %q", n, got)
		}
	}
}

// mayDefault answers whether a worth is a default of a type, as P13.3 says it, by numbers that have no bounds.
func mayDefault(t int, worth api.Node) bool {
	word := lower.Plain(t)
	switch {
	case t == 0:
		return worth.Kind == api.KIdent
	case word == "bool":
		return worth.Kind == api.KIdent && (worth.Text == "true" || worth.Text == "false")
	case word == "string" || word == "bytes":
		return worth.Kind == api.KString
	case !strings.Contains(word, "32") && !strings.Contains(word, "64"):
		return false
	}
	if _, _, is := node.Int(worth.Text); worth.Kind != api.KInt || !is {
		return false
	}
	bits, _ := strconv.Atoi(word[len(word)-2:])
	number, _ := new(big.Int).SetString(worth.Text, 10)
	if word[0] == 'u' || word[0] == 'f' {
		return number.Sign() >= 0 && number.BitLen() <= bits
	}
	most := new(big.Int).Lsh(big.NewInt(1), uint(bits-1))
	return number.Cmp(most) < 0 && number.Cmp(new(big.Int).Neg(most)) >= 0
}

// worths answers nodes of all kinds with texts of all kinds.
func worths() []api.Node {
	texts := []string{"", "0", "00", "-0", "-", "+1", " 1", "1 ", "1.0", "0x10", "1e3", "01", "-01", "true", "false", "True", "inf", "A", "a.b", "\xff", strings.Repeat("9", 100)}
	for _, bits := range []uint{31, 32, 63, 64} {
		for _, add := range []int64{-2, -1, 0, 1} {
			number := new(big.Int).Lsh(big.NewInt(1), bits)
			number.Add(number, big.NewInt(add))
			texts = append(texts, number.String(), "-"+number.String(), "0"+number.String())
		}
	}
	var l []api.Node
	for kind := -1; kind <= api.KEntry+1; kind++ {
		for _, text := range texts {
			l = append(l, api.Node{Kind: kind, Text: text, N: 1, M: 1, A: 1, At: -1, Doc: "x"})
		}
	}
	return l
}

// P13.3: all types, with worths of all kinds and at all bounds.
func TestDefault(t *testing.T) {
	types := []int{math.MinInt, -1, 19, 99, math.MaxInt}
	for n := range 19 {
		types = append(types, n)
	}
	for _, worth := range worths() {
		for _, of := range types {
			text, is := lower.Default(of, worth)
			want := mayDefault(of, worth)
			if is != want || is && text != worth.Text || !is && text != "" {
				t.Errorf("Default(%d, %d %q) = %q, %v, want %v", of, worth.Kind, worth.Text, text, is, want)
			}
		}
	}
}

// P13.3: the bounds, one by one.
func TestDefaultBounds(t *testing.T) {
	for _, row := range []struct{ types, least, below, most, above string }{
		{"int32 sint32 sfixed32", "-2147483648", "-2147483649", "2147483647", "2147483648"},
		{"uint32 fixed32", "0", "-1", "4294967295", "4294967296"},
		{"int64 sint64 sfixed64", "-9223372036854775808", "-9223372036854775809", "9223372036854775807", "9223372036854775808"},
		{"uint64 fixed64", "0", "-1", "18446744073709551615", "18446744073709551616"},
	} {
		for _, word := range strings.Fields(row.types) {
			for text, want := range map[string]bool{row.least: true, row.below: false, row.most: true, row.above: false} {
				if _, is := lower.Default(lower.Type(word), api.Node{Kind: api.KInt, Text: text}); is != want {
					t.Errorf("%s of %s is %v", text, word, is)
				}
			}
		}
	}
}

// full is a source in which each kind of part has all that it may have.
const full = `syntax = "proto3"; package pack.name; import "import"; import public "second"; option (file.option).part = { entry: 1, [other.entry]: "text" };
	message Message { option message_option = 1; optional int32 field_name = 1 [default = 15, json_name = "json", field_option = {a {b: c}}];
		Other.Type other_field = 2 [field_option = x, field_option = y]; map<string, Value.Type> map_name = 3 [json_name = "other", map_option = 1];
		oneof oneof_name { option oneof_option = 1; bytes inner = 4 [default = "bytes"]; } message Nested { option nested_option = 1; optional bool inner_name = 1; }
		enum Enum { option enum_option = 1; VALUE = 0 [value_option = 1]; SECOND = -1; } extensions 100 to 200, 300; reserved 10, 20 to 30; reserved "word", "second_word";
		extend Other.Type { int32 extension_name = 100 [extension_option = 1]; } }
	enum Enum { VALUE = 5; } service Service { option service_option = 1; rpc Method (In.Type) returns (stream Out.Type) { option method_option = 1; } }
	extend Other.Type { repeated int32 file_extension = 100 [extension_option = 1]; string second_extension = 101 [default = "default text"]; }`

// span is memory, from byte to byte, and what stands there, if it is a text.
type span struct {
	from, to uintptr
	text     string
}

// memory answers the memory of the lists, all that they have room for, and that of the texts.
func memory(v reflect.Value, lists, texts *[]span) {
	switch v.Kind() {
	case reflect.Struct:
		for i := range v.NumField() {
			memory(v.Field(i), lists, texts)
		}
	case reflect.Slice:
		if v.Cap() > 0 {
			from := v.Pointer()
			*lists = append(*lists, span{from: from, to: from + uintptr(v.Cap())*v.Type().Elem().Size()})
		}
		for i := range v.Len() {
			memory(v.Index(i), lists, texts)
		}
	case reflect.String:
		if s := v.String(); s != "" {
			from := uintptr(unsafe.Pointer(unsafe.StringData(s)))
			*texts = append(*texts, span{from, from + uintptr(len(s)), s})
		}
	}
}

func (s span) meets(other span) bool { return s.from < other.to && other.from < s.to }

// P2: no list of an answer shares memory with another, with an argument or with the next answer; no text with an argument.
func TestMemory(t *testing.T) {
	n, path := parsed(t, full), strings.Clone("a path")
	var given, givenTexts, lists, texts []span
	memory(reflect.ValueOf(n), &given, &givenTexts)
	memory(reflect.ValueOf(path), &given, &givenTexts)
	// What nothing holds any more may lie where what comes later does.
	var held []any
	for range 2 {
		f, asked, _, err := lower.File(n, path)
		if err != api.OK {
			t.Fatal(err)
		}
		memory(reflect.ValueOf(f), &lists, &texts)
		memory(reflect.ValueOf(asked), &lists, &texts)
		held = append(held, f, asked)
	}
	for _, worth := range n.Kids[4].Kids[1].Kids[1].Kids[1:] {
		text, _ := lower.Default(api.TInt32, worth)
		memory(reflect.ValueOf(text), &lists, &texts)
		held = append(held, text)
	}
	runtime.KeepAlive(held)
	all := slices.Concat(lists, given)
	slices.SortFunc(all, func(a, b span) int { return int(a.from) - int(b.from) })
	for i := range all[1:] {
		if all[i].meets(all[i+1]) {
			t.Errorf("lists share memory: %v, %v", all[i], all[i+1])
		}
	}
	for _, a := range texts {
		if slices.ContainsFunc(givenTexts, a.meets) {
			t.Errorf("a text shares memory: %q", a.text)
		}
	}
	if len(lists) < 100 || len(texts) < 150 {
		t.Errorf("only %d lists, %d texts", len(lists), len(texts))
	}
}

// P2: what is done to an answer is not to be seen in the next one, entries' options among it.
func TestAnswersApart(t *testing.T) {
	n := parsed(t, full)
	f, asked, _, _ := lower.File(n, "x")
	want, _ := desc.Bytes(f)
	f.Messages[0].Nested[0].Options[0] = 0
	f.Messages[0].Fields[0].Name = "other"
	asked[1].Path[0], asked[1].Opt.Kids[0].Text = 99, "other"
	again, second, _, _ := lower.File(n, "x")
	got, _ := desc.Bytes(again)
	if !bytes.Equal(got, want) || second[1].Path[0] != 4 || second[1].Opt.Kids[0].Text != "message_option" {
		t.Errorf("%+v, %+v", again, second)
	}
}

// P1: trees at the bounds of what node.Check takes.
func TestGreat(t *testing.T) {
	wide := strings.Repeat("int32 a = 1;", 8000)
	f, _ := lowered(t, "syntax = 'proto3'; message M { "+wide+" }")
	if len(f.Messages[0].Fields) != 8000 {
		t.Errorf("%d fields", len(f.Messages[0].Fields))
	}
	deepest := api.Node{Kind: api.KMap, Text: "m", Kids: []api.Node{{Kind: api.KType, Text: "int32"}, {Kind: api.KType, Text: "A"}}}
	name := strings.Repeat("n", 200)
	for range 61 {
		deepest = api.Node{Kind: api.KMessage, Text: name, Kids: []api.Node{deepest}}
	}
	f, _, at, err := lower.File(api.Node{Kind: api.KFile, Kids: []api.Node{deepest}}, "")
	if err != api.OK || at != 0 || desc.Deep(f) != 62 {
		t.Fatalf("%d at %d, deep %d", err, at, desc.Deep(f))
	}
	m := f.Messages[0]
	for len(m.Fields) == 0 {
		m = m.Nested[0]
	}
	if want := strings.Repeat("."+name, 61) + ".MEntry"; m.Fields[0].TypeName != want {
		t.Errorf("%q", m.Fields[0].TypeName)
	}
}

// P1: as many oneofs of one name as a source has room for.
func TestGreatSynthetic(t *testing.T) {
	all, of := oneofs(t, "syntax = 'proto3'; message M { "+strings.Repeat("optional A a=1;", 3000)+" }")
	var want []string
	for n := range 3000 {
		want = append(want, strings.Repeat("X", n)+names.Synthetic("a", nil))
	}
	if all != strings.Join(want, " ") || of != "a:"+strings.Join(want, " a:") {
		t.Errorf("%.100q, %.100q", all, of)
	}
}
