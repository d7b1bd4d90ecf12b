package boot_test

import (
	"reflect"
	"regexp"
	"slices"
	"strconv"
	"strings"
	"testing"

	"glossary/api"
	"glossary/boot"
	"glossary/check"
	"glossary/decode"
	"glossary/desc"
	"glossary/encode"
	"glossary/link"
	"glossary/lower"
	"glossary/names"
	"glossary/parse"
	"glossary/pool"
	"glossary/value"
)

const pack = "google.protobuf"

// chapter is the chapter's table.
const chapter = `
| FileDescriptorSet | repeated FileDescriptorProto file 1 |
| FileDescriptorProto | string name 1, string package 2, repeated string dependency 3, repeated DescriptorProto message_type 4, repeated EnumDescriptorProto enum_type 5, repeated ServiceDescriptorProto service 6, repeated FieldDescriptorProto extension 7, FileOptions options 8, repeated int32 public_dependency 10, string syntax 12 |
| DescriptorProto | string name 1, repeated FieldDescriptorProto field 2, repeated DescriptorProto nested_type 3, repeated EnumDescriptorProto enum_type 4, repeated RangeProto extension_range 5, repeated FieldDescriptorProto extension 6, MessageOptions options 7, repeated OneofDescriptorProto oneof_decl 8, repeated RangeProto reserved_range 9, repeated string reserved_name 10 |
| RangeProto | int64 start 1, int64 end 2 |
| FieldDescriptorProto | string name 1, string extendee 2, int64 number 3, int32 label 4, int32 type 5, string type_name 6, string default_value 7, FieldOptions options 8, int32 oneof_index 9, string json_name 10, bool proto3_optional 17 |
| OneofDescriptorProto | string name 1, OneofOptions options 2 |
| EnumDescriptorProto | string name 1, repeated EnumValueDescriptorProto value 2, EnumOptions options 3 |
| EnumValueDescriptorProto | string name 1, int64 number 2, EnumValueOptions options 3 |
| ServiceDescriptorProto | string name 1, repeated MethodDescriptorProto method 2, ServiceOptions options 3 |
| MethodDescriptorProto | string name 1, string input_type 2, string output_type 3, MethodOptions options 4, bool client_streaming 5, bool server_streaming 6 |
| FileOptions | string java_package 1, bool deprecated 23, extensions |
| MessageOptions | bool deprecated 3, bool map_entry 7, extensions |
| FieldOptions | bool packed 2, bool deprecated 3, extensions |
| OneofOptions | extensions |
| EnumOptions | bool deprecated 3, extensions |
| EnumValueOptions | bool deprecated 1, extensions |
| ServiceOptions | bool deprecated 33, extensions |
| MethodOptions | bool deprecated 33, extensions |
`

var (
	rowForm   = regexp.MustCompile(`(?m)^\| (\w+) \| (.*) \|$`)
	fieldForm = regexp.MustCompile(`(repeated )?(\w+) (\w+) (\d+)`)
)

// tabled answers the messages that the chapter's table describes.
func tabled() []api.Message {
	var l []api.Message
	for _, row := range rowForm.FindAllStringSubmatch(chapter, -1) {
		m := api.Message{Name: row[1]}
		for _, cell := range fieldForm.FindAllStringSubmatch(row[2], -1) {
			f := api.Field{Name: cell[3], Label: map[string]int{"": 1, "repeated ": 3}[cell[1]], Type: lower.Type(cell[2]), Json: names.Json(cell[3])}
			f.Number, _ = strconv.ParseInt(cell[4], 10, 64)
			if f.Type == 0 {
				f.Type, f.TypeName = api.TMessage, "."+pack+"."+cell[2]
			}
			m.Fields = append(m.Fields, f)
		}
		if strings.HasSuffix(row[2], "extensions") {
			m.Ranges = []api.Range{{From: 1000, To: 1<<29 - 1}}
		}
		l = append(l, m)
	}
	return l
}

// P20.1
func TestPath(t *testing.T) {
	if boot.Path() != "google/protobuf/descriptor.proto" {
		t.Error(boot.Path())
	}
}

// P20.1: the chapter's table, and nothing else.
func TestFile(t *testing.T) {
	f, want := boot.File(), tabled()
	if len(want) != 18 || len(f.Messages) != len(want) {
		t.Fatalf("%d messages, want %d", len(f.Messages), len(want))
	}
	for i, m := range f.Messages {
		if !reflect.DeepEqual(m, want[i]) {
			t.Errorf("%+v, want %+v", m, want[i])
		}
	}
	f.Messages = nil
	if !reflect.DeepEqual(f, api.File{Name: boot.Path(), Package: pack}) {
		t.Errorf("%+v", f)
	}
}

// P20.1: some of it as it stands in descriptions.
func TestFields(t *testing.T) {
	f := boot.File()
	for at, want := range map[[2]int]api.Field{
		{0, 0}:  {Name: "file", Number: 1, Label: api.LabelRepeated, Type: api.TMessage, TypeName: ".google.protobuf.FileDescriptorProto", Json: "file"},
		{1, 2}:  {Name: "dependency", Number: 3, Label: api.LabelRepeated, Type: api.TString, Json: "dependency"},
		{1, 8}:  {Name: "public_dependency", Number: 10, Label: api.LabelRepeated, Type: api.TInt32, Json: "publicDependency"},
		{1, 9}:  {Name: "syntax", Number: 12, Label: api.LabelOptional, Type: api.TString, Json: "syntax"},
		{2, 6}:  {Name: "options", Number: 7, Label: api.LabelOptional, Type: api.TMessage, TypeName: ".google.protobuf.MessageOptions", Json: "options"},
		{3, 1}:  {Name: "end", Number: 2, Label: api.LabelOptional, Type: api.TInt64, Json: "end"},
		{4, 10}: {Name: "proto3_optional", Number: 17, Label: api.LabelOptional, Type: api.TBool, Json: "proto3Optional"},
		{17, 0}: {Name: "deprecated", Number: 33, Label: api.LabelOptional, Type: api.TBool, Json: "deprecated"},
	} {
		if got := f.Messages[at[0]].Fields[at[1]]; !reflect.DeepEqual(got, want) {
			t.Errorf("%v: %+v, want %+v", at, got, want)
		}
	}
}

// linked answers what a source comes to whose names are found in f alone.
func linked(t *testing.T, source string, f api.File) api.File {
	t.Helper()
	n, at, err := parse.File(source)
	if err != api.OK {
		t.Fatalf("parse.File: %d, %d", at, err)
	}
	g, asked, at, err := lower.File(n, boot.Path())
	if err != api.OK || len(asked) > 0 {
		t.Fatalf("lower.File: %v, %d, %d", asked, at, err)
	}
	p, full, err := pool.New([]api.File{f})
	if err != api.OK {
		t.Fatalf("pool.New: %q, %d", full, err)
	}
	g, name, err := link.File(g, p, []string{boot.Path()})
	if err != api.OK {
		t.Fatalf("link.File: %q, %d", name, err)
	}
	return g
}

// P20.2, G5
func TestSource(t *testing.T) {
	f := boot.File()
	if g := linked(t, boot.Source(), f); !desc.Same(f, g) || !reflect.DeepEqual(f, g) {
		t.Errorf("%+v", g)
	}
}

// P20.2: names are written without packages.
func TestSourceNames(t *testing.T) {
	bare, is := strings.CutPrefix(strings.Replace(boot.Source(), "package "+pack+";", "", 1), `syntax = "proto2";`)
	if !is || strings.ContainsAny(bare, `."`) || strings.Contains(bare, "google") {
		t.Errorf("%q", bare)
	}
	n, _, err := parse.File(boot.Source())
	if err != api.OK {
		t.Fatal(err)
	}
	f, _, _, _ := lower.File(n, boot.Path())
	for i, m := range tabled() {
		for k, want := range m.Fields {
			got := f.Messages[i].Fields[k]
			if typed := strings.TrimPrefix(want.TypeName, "."+pack+"."); got.TypeName != typed || got.Type != 0 && typed != "" {
				t.Errorf("%s.%s: %d, %q", m.Name, want.Name, got.Type, got.TypeName)
			}
		}
	}
}

// P20.3
func TestOf(t *testing.T) {
	kinds := []string{"File", "Message", "Field", "Oneof", "Enum", "EnumValue", "Service", "Method"}
	f := boot.File()
	for _, kind := range kinds {
		full := boot.Of(kind)
		if full != "google.protobuf."+kind+"Options" {
			t.Errorf("Of(%q): %q", kind, full)
		}
		at := slices.IndexFunc(f.Messages, func(m api.Message) bool { return pack+"."+m.Name == full })
		if at < 0 || len(f.Messages[at].Ranges) != 1 {
			t.Errorf("there is no %s that others may add to", full)
		}
	}
	for _, word := range []string{"", "x", "file", "FILE", " File", "File ", "Files", "FileOptions", "Options", "Extension", "ExtensionRange", "Map", "Range", "Value", "Enumvalue", "Enum.Value", "Package", "google.protobuf.File", "\x00", "\xff"} {
		if full := boot.Of(word); full != "" {
			t.Errorf("Of(%q): %q", word, full)
		}
	}
}

// P20.1: the description is one that may be.
func TestCheck(t *testing.T) {
	if name, rule, err := check.Set([]api.File{boot.File()}); err != api.OK {
		t.Errorf("%q, %d, %d", name, rule, err)
	}
}

// rich answers a file that has something of everything.
func rich() api.File {
	field := api.Field{Name: "f", Number: 1 << 20, Label: 3, Type: api.TInt32, TypeName: ".a", Extendee: ".b", Default: "7", Has: true, Oneof: 1, Json: "j", Optional: true, Options: []byte{0x10, 1, 0x18, 1, 0xc2, 0x3e, 1, 5}}
	enum := api.Enum{Name: "E", Values: []api.Value{{Name: "V", Number: -1, Options: []byte{8, 1}}, {Name: "W"}}, Options: []byte{0x18, 1}}
	m := api.Message{Name: "M", Fields: []api.Field{field, {Name: "g"}}, Enums: []api.Enum{enum}, Ranges: []api.Range{{From: 5, To: 9}}, Extends: []api.Field{field},
		Oneofs: []api.Oneof{{Name: "o", Options: []byte{0xc2, 0x3e, 0}}, {Name: "p"}}, Reserved: []api.Range{{From: 1, To: 2}, {}}, Words: []string{"w", "x"}, Options: []byte{0x18, 1, 0x38, 1}}
	outer := m
	outer.Nested = []api.Message{m, {Name: "N"}}
	service := api.Service{Name: "S", Methods: []api.Method{{Name: "m", In: ".a", Out: ".b", Client: true, Server: true, Options: []byte{0x88, 2, 1}}}, Options: []byte{0x88, 2, 1}}
	return api.File{Name: "n", Package: "p", Deps: []string{"a", "b"}, Public: []int{1, 0}, Messages: []api.Message{outer, m}, Enums: []api.Enum{enum, enum}, Services: []api.Service{service}, Extends: []api.Field{field}, Syntax: "proto3", Options: []byte{0x0a, 1, 'j', 0xb8, 1, 1}}
}

// G5: the bytes that desc writes are those that the description drives; it has a field for whatever is in them.
func TestDrives(t *testing.T) {
	p, _, _ := pool.New([]api.File{boot.File()})
	full := pack + ".FileDescriptorProto"
	for _, f := range []api.File{boot.File(), rich(), {}} {
		b, err := desc.Bytes(f)
		if err != api.OK {
			t.Fatal(err)
		}
		m, err := decode.Msg(p, full, b)
		if err != api.OK || len(m.Unknown) > 0 {
			t.Errorf("%s: %d, Unknown %x", f.Name, err, m.Unknown)
		}
		again, err := encode.Msg(p, full, m)
		if err != api.OK || string(again) != string(b) {
			t.Errorf("%s: %x, %d, want %x", f.Name, again, err, b)
		}
		for at := range m.Slots {
			holdKnown(t, m.Slots[at].Vals)
		}
		if !value.Fit(p, full, m) {
			t.Errorf("%s doesn't fit", f.Name)
		}
	}
}

// holdKnown holds that only extensions are unknown.
func holdKnown(t *testing.T, l []api.Val) {
	t.Helper()
	for _, v := range l {
		if len(v.M.Unknown) > 0 && !strings.HasPrefix(string(v.M.Unknown), "\xc2\x3e") {
			t.Errorf("Unknown %x", v.M.Unknown)
		}
		for _, s := range v.M.Slots {
			holdKnown(t, s.Vals)
		}
	}
}

// P2: answers share no memory.
func TestMemory(t *testing.T) {
	f := boot.File()
	for i := range f.Messages {
		m := &f.Messages[i]
		for k := range m.Fields {
			m.Fields[k] = api.Field{}
		}
		for k := range m.Ranges {
			m.Ranges[k] = api.Range{}
		}
		m.Fields, m.Ranges = append(m.Fields, api.Field{Name: "x"}), append(m.Ranges, api.Range{})
		*m = api.Message{}
	}
	if g := boot.File(); !reflect.DeepEqual(g.Messages, tabled()) {
		t.Errorf("%+v", g)
	}
	// Within one answer, too, nothing that is added to a list comes into another one.
	g := boot.File()
	for i := range g.Messages {
		_ = append(append(g.Messages[i].Fields, api.Field{Name: "x"}), api.Field{Name: "y"})
		_ = append(append(g.Messages[i].Ranges, api.Range{}), api.Range{})
	}
	if !reflect.DeepEqual(g.Messages, tabled()) {
		t.Errorf("%+v", g)
	}
}
