package desc_test

import (
	"bytes"
	"fmt"
	"math"
	"reflect"
	"strings"
	"testing"

	"glossary/api"
	"glossary/desc"
)

// minus1 is -1 as a number on the wire.
const minus1 = "\xff\xff\xff\xff\xff\xff\xff\xff\xff\x01"

func hold(t *testing.T, f api.File, want string) {
	t.Helper()
	if got, err := desc.Bytes(f); err != api.OK || string(got) != want {
		t.Errorf("Bytes(%.500s) = %x, %d, want %x", fmt.Sprintf("%+v", f), got, err, want)
	}
}

// in lays bytes as a part or a text behind a tag of one byte.
func in(tag byte, parts ...string) string {
	b := strings.Join(parts, "")
	return string([]byte{tag, byte(len(b))}) + b
}

// nested answers so many messages within one another.
func nested(deep int) []api.Message {
	var l []api.Message
	for range deep {
		l = []api.Message{{Nested: l}}
	}
	return l
}

// P11.1: the chapter's example, and nothing at all.
func TestExample(t *testing.T) {
	hold(t, api.File{Name: "a"}, "\x0a\x01\x61")
	hold(t, api.File{}, "")
	hold(t, api.File{Deps: []string{}, Public: []int{}, Messages: []api.Message{}, Enums: []api.Enum{}, Services: []api.Service{},
		Extends: []api.Field{}, Options: []byte{}, Unknown: []byte{}}, "")
}

// P11.1: a file's fields, by number whatever their order in the type.
func TestFile(t *testing.T) {
	hold(t, api.File{Name: "n", Package: "p", Deps: []string{"d", "", "e"}, Public: []int{2, 0, 300}, Messages: []api.Message{{Name: "M"}, {}},
		Enums: []api.Enum{{Name: "E"}, {}}, Services: []api.Service{{Name: "S"}, {}}, Extends: []api.Field{{Name: "X"}, {}},
		Syntax: "proto3", Options: []byte{8, 1}, Unknown: []byte{0xff, 0}},
		"\x0a\x01n\x12\x01p\x1a\x01d\x1a\x00\x1a\x01e"+
			"\x22\x03\x0a\x01M\x22\x00\x2a\x03\x0a\x01E\x2a\x00\x32\x03\x0a\x01S\x32\x00\x3a\x03\x0a\x01X\x3a\x00"+
			"\x42\x02\x08\x01\x50\x02\x50\x00\x50\xac\x02\x62\x06proto3\xff\x00")
	hold(t, api.File{Public: []int{-1, math.MinInt, math.MaxInt}},
		"\x50"+minus1+"\x50\x80\x80\x80\x80\x80\x80\x80\x80\x80\x01\x50\xff\xff\xff\xff\xff\xff\xff\xff\x7f")
	hold(t, api.File{Syntax: "x"}, "\x62\x01x")
}

// P11.1: a message's fields.
func TestMessage(t *testing.T) {
	m := api.Message{Name: "M", Fields: []api.Field{{Name: "f"}, {}}, Nested: []api.Message{{Name: "N"}, {}}, Enums: []api.Enum{{Name: "E"}, {}},
		Ranges: []api.Range{{From: 1, To: 2}, {}}, Extends: []api.Field{{Name: "x"}, {}}, Oneofs: []api.Oneof{{Name: "o"}, {}},
		Reserved: []api.Range{{From: 3, To: 3}, {}}, Words: []string{"w", "", "v"}, Options: []byte{0x38, 1}, Unknown: []byte("u")}
	hold(t, api.File{Messages: []api.Message{m}}, in(0x22, "\x0a\x01M", "\x12\x03\x0a\x01f\x12\x00", "\x1a\x03\x0a\x01N\x1a\x00", "\x22\x03\x0a\x01E\x22\x00",
		"\x2a\x04\x08\x01\x10\x03\x2a\x04\x08\x00\x10\x01", "\x32\x03\x0a\x01x\x32\x00", "\x3a\x02\x38\x01", "\x42\x03\x0a\x01o\x42\x00",
		"\x4a\x04\x08\x03\x10\x04\x4a\x04\x08\x00\x10\x01", "\x52\x01w\x52\x00\x52\x01v", "u"))
}

// P11.1: a field's fields, of a message, of an extension in a message and in a file.
func TestField(t *testing.T) {
	f := api.Field{Name: "f", Number: 300, Label: 3, Type: 11, TypeName: ".T", Extendee: ".X", Default: "d", Has: true, Oneof: 2, Json: "j",
		Optional: true, Options: []byte{0x10, 1}, Unknown: []byte("u")}
	want := "\x0a\x01f\x12\x02.X\x18\xac\x02\x20\x03\x28\x0b\x32\x02.T\x3a\x01d\x42\x02\x10\x01\x48\x01\x52\x01j\x88\x01\x01u"
	hold(t, api.File{Extends: []api.Field{f}}, in(0x3a, want))
	hold(t, api.File{Messages: []api.Message{{Fields: []api.Field{f}}}}, in(0x22, in(0x12, want)))
	hold(t, api.File{Messages: []api.Message{{Extends: []api.Field{f}}}}, in(0x22, in(0x32, want)))
}

// P11.1: numbers below 0, a Default that is there, a Oneof less 1.
func TestFieldEdges(t *testing.T) {
	cases := []struct {
		f    api.Field
		want string
	}{
		{api.Field{}, ""},
		{api.Field{Number: -1}, "\x18" + minus1},
		{api.Field{Number: math.MinInt64}, "\x18\x80\x80\x80\x80\x80\x80\x80\x80\x80\x01"},
		{api.Field{Number: math.MaxInt64}, "\x18\xff\xff\xff\xff\xff\xff\xff\xff\x7f"},
		{api.Field{Label: -1}, "\x20" + minus1},
		{api.Field{Type: -1}, "\x28" + minus1},
		{api.Field{Has: true}, "\x3a\x00"},
		{api.Field{Has: true, Default: "d"}, "\x3a\x01d"},
		{api.Field{Default: "d"}, "\x3a\x01d"},
		{api.Field{Oneof: 1}, "\x48\x00"},
		{api.Field{Oneof: 129}, "\x48\x80\x01"},
		{api.Field{Oneof: -1}, "\x48\xfe\xff\xff\xff\xff\xff\xff\xff\xff\x01"},
		{api.Field{Oneof: math.MinInt}, "\x48\xff\xff\xff\xff\xff\xff\xff\xff\x7f"},
		{api.Field{Optional: true}, "\x88\x01\x01"},
		{api.Field{Unknown: []byte{0}}, "\x00"},
	}
	for _, c := range cases {
		hold(t, api.File{Extends: []api.Field{c.f}}, in(0x3a, c.want))
	}
}

// P11.1: both ends of a range are always there; the one behind To wraps round.
func TestRange(t *testing.T) {
	cases := []struct {
		r    api.Range
		want string
	}{
		{api.Range{}, "\x08\x00\x10\x01"},
		{api.Range{From: 0, To: -1}, "\x08\x00\x10\x00"},
		{api.Range{From: 1000, To: api.MaxField}, "\x08\xe8\x07\x10\x80\x80\x80\x80\x02"},
		{api.Range{From: -1, To: -2}, "\x08" + minus1 + "\x10" + minus1},
		{api.Range{From: math.MaxInt64, To: math.MaxInt64}, "\x08\xff\xff\xff\xff\xff\xff\xff\xff\x7f\x10\x80\x80\x80\x80\x80\x80\x80\x80\x80\x01"},
		{api.Range{From: math.MinInt64, To: math.MinInt64}, "\x08\x80\x80\x80\x80\x80\x80\x80\x80\x80\x01\x10\x81\x80\x80\x80\x80\x80\x80\x80\x80\x01"},
	}
	for _, c := range cases {
		hold(t, api.File{Messages: []api.Message{{Ranges: []api.Range{c.r}}}}, in(0x22, in(0x2a, c.want)))
		hold(t, api.File{Messages: []api.Message{{Reserved: []api.Range{c.r}}}}, in(0x22, in(0x4a, c.want)))
	}
}

// P11.1: enums and their values, of which the number is always there; oneofs; services and their methods.
func TestSmallParts(t *testing.T) {
	e := api.Enum{Name: "E", Values: []api.Value{{Name: "Z"}, {Name: "M", Number: -1, Options: []byte("o"), Unknown: []byte("v")}, {}}, Options: []byte("p"), Unknown: []byte("u")}
	want := "\x0a\x01E" + in(0x12, "\x0a\x01Z\x10\x00") + in(0x12, "\x0a\x01M\x10"+minus1+"\x1a\x01ov") + in(0x12, "\x10\x00") + "\x1a\x01pu"
	hold(t, api.File{Enums: []api.Enum{e}}, in(0x2a, want))
	hold(t, api.File{Messages: []api.Message{{Enums: []api.Enum{e}}}}, in(0x22, in(0x22, want)))
	hold(t, api.File{Messages: []api.Message{{Oneofs: []api.Oneof{{Name: "o", Options: []byte("p"), Unknown: []byte("u")}}}}}, in(0x22, in(0x42, "\x0a\x01o\x12\x01pu")))
	s := api.Service{Name: "S", Methods: []api.Method{{Name: "a", In: ".I", Out: ".O", Client: true, Server: true, Options: []byte("o"), Unknown: []byte("v")},
		{Client: true}, {Server: true}, {}}, Options: []byte("p"), Unknown: []byte("u")}
	hold(t, api.File{Services: []api.Service{s}}, in(0x32, "\x0a\x01S", in(0x12, "\x0a\x01a\x12\x02.I\x1a\x02.O\x22\x01o\x28\x01\x30\x01v"),
		in(0x12, "\x28\x01"), in(0x12, "\x30\x01"), in(0x12), "\x1a\x01pu"))
}

// P11.1: lengths of more than a byte, and bytes that are no characters.
func TestLong(t *testing.T) {
	long := strings.Repeat("\xff\x00", 100)
	hold(t, api.File{Name: long}, "\x0a\xc8\x01"+long)
	hold(t, api.File{Messages: []api.Message{{Name: long}}}, "\x22\xcb\x01\x0a\xc8\x01"+long)
	hold(t, api.File{Unknown: []byte(long)}, long)
}

// P11.1, P11.4: as deep as it may be, and one more; wherever the deepest stands.
func TestDeep(t *testing.T) {
	for deep := range 70 {
		wide := append(nested(min(deep, 3)), nested(deep)...)
		wide = append(wide, nested(min(deep, 2))...)
		for _, l := range [][]api.Message{nested(deep), wide} {
			f := api.File{Messages: l}
			b, err := desc.Bytes(f)
			if deep <= 64 {
				if desc.Deep(f) != deep || err != api.OK || (len(b) > 0) != (deep > 0) || !desc.Same(f, copied(f)) {
					t.Errorf("%d messages within one another: Deep %d, %d bytes, %d", deep, desc.Deep(f), len(b), err)
				}
				continue
			}
			if desc.Deep(f) != 100 || err != api.ErrLong || len(b) != 0 || desc.Same(f, f) || desc.Same(f, copied(f)) {
				t.Errorf("%d messages within one another: Deep %d, %d bytes, %d", deep, desc.Deep(f), len(b), err)
			}
		}
	}
	want := ""
	for range 63 {
		want = in(0x1a, want)
	}
	hold(t, api.File{Messages: nested(64)}, in(0x22, want))
}

// P11.4: only messages count.
func TestDeepOfOthers(t *testing.T) {
	f := api.File{Enums: []api.Enum{{Values: []api.Value{{}}}}, Services: []api.Service{{Methods: []api.Method{{}}}}, Extends: []api.Field{{}}}
	if got := desc.Deep(f); got != 0 {
		t.Errorf("Deep without messages is %d", got)
	}
	f.Messages = []api.Message{{Fields: []api.Field{{}}, Enums: f.Enums, Extends: f.Extends, Oneofs: []api.Oneof{{}}, Ranges: []api.Range{{}}}}
	if got := desc.Deep(f); got != 1 {
		t.Errorf("Deep of one message is %d", got)
	}
	f.Messages = append(f.Messages, f.Messages...)
	if got := desc.Deep(f); got != 1 {
		t.Errorf("Deep of two messages beside each other is %d", got)
	}
}

// P1: lists that stand within themselves have no end, and all calls have one.
func TestWithinItself(t *testing.T) {
	one := []api.Message{{Name: "A"}}
	one[0].Nested = one
	two := make([]api.Message, 2)
	two[0].Nested, two[1].Nested = two, two
	last := make([]api.Message, 3)
	last[2].Nested = last
	for _, l := range [][]api.Message{one, two, last} {
		f := api.File{Name: "a", Messages: l}
		b, err := desc.Bytes(f)
		s, setErr := desc.Set([]api.File{{}, f})
		if desc.Deep(f) != 100 || err != api.ErrLong || setErr != api.ErrLong || len(b)+len(s) > 0 || desc.Same(f, f) || desc.Same(f, api.File{}) || desc.Same(api.File{}, f) {
			t.Errorf("Deep %d, Bytes %x, %d, Set %x, %d", desc.Deep(f), b, err, s, setErr)
		}
	}
}

// P11.2: each file in its place; one that is too deep leaves no bytes, wherever it stands.
func TestSet(t *testing.T) {
	for _, l := range [][]api.File{nil, {}} {
		if b, err := desc.Set(l); len(b) != 0 || err != api.OK {
			t.Errorf("Set of none = %x, %d", b, err)
		}
	}
	a, z := api.File{Name: "a"}, api.File{}
	for _, c := range []struct {
		l    []api.File
		want string
	}{
		{[]api.File{a}, "\x0a\x03\x0a\x01a"},
		{[]api.File{z}, "\x0a\x00"},
		{[]api.File{a, z, {Unknown: []byte("u")}, a}, "\x0a\x03\x0a\x01a\x0a\x00\x0a\x01u\x0a\x03\x0a\x01a"},
		{[]api.File{{Name: strings.Repeat("x", 200)}}, "\x0a\xcb\x01\x0a\xc8\x01" + strings.Repeat("x", 200)},
	} {
		if b, err := desc.Set(c.l); string(b) != c.want || err != api.OK {
			t.Errorf("Set(%+v) = %x, %d, want %x", c.l, b, err, c.want)
		}
	}
	deep, fits := api.File{Messages: nested(65)}, api.File{Messages: nested(64)}
	for _, l := range [][]api.File{{deep}, {a, deep}, {deep, a}, {a, deep, deep, fits}} {
		if b, err := desc.Set(l); len(b) != 0 || err != api.ErrLong {
			t.Errorf("Set with a file that is too deep = %x, %d", b, err)
		}
	}
	if b, err := desc.Set([]api.File{fits, fits}); len(b) == 0 || err != api.OK {
		t.Errorf("Set of files that are just not too deep = %x, %d", b, err)
	}
}

// change calls see while each leaf, and each list's length, of v is another, one at a time.
func change(v reflect.Value, way string, see func(way string)) {
	old := reflect.New(v.Type()).Elem()
	old.Set(v)
	switch v.Kind() {
	case reflect.Struct:
		for i := range v.NumField() {
			change(v.Field(i), way+"."+v.Type().Field(i).Name, see)
		}
		return
	case reflect.Slice:
		for i := range v.Len() {
			change(v.Index(i), way+"[]", see)
		}
		if v.Len() > 0 {
			v.Set(old.Slice(0, v.Len()-1))
			see(way + " without its last")
		}
		v.Set(reflect.Append(old.Slice3(0, old.Len(), old.Len()), reflect.Zero(v.Type().Elem())))
	case reflect.String:
		v.SetString(old.String() + "x")
	case reflect.Bool:
		v.SetBool(!old.Bool())
	case reflect.Uint8:
		v.SetUint(old.Uint() ^ 0x80)
	default:
		v.SetInt(old.Int() ^ 1<<40)
	}
	see(way)
	v.Set(old)
}

// P11.3: whatever is another makes them unlike, at whichever side and wherever it stands.
func TestSameAsksAll(t *testing.T) {
	a, b := whole(2), whole(2)
	if !desc.Same(a, b) {
		t.Fatal("a file isn't the same as its copy")
	}
	seen := 0
	change(reflect.ValueOf(&b).Elem(), "File", func(way string) {
		seen++
		if desc.Same(a, b) || desc.Same(b, a) {
			t.Errorf("%s isn't asked", way)
		}
	})
	if seen < 500 || !desc.Same(a, b) {
		t.Errorf("%d changes were seen", seen)
	}
}

// P11.3: what has the same bytes needn't be the same; P3: nothing and none are.
func TestSame(t *testing.T) {
	field := func(f api.Field) api.File { return api.File{Extends: []api.Field{f}} }
	unlike := [][2]api.File{
		{{Name: "a"}, {Unknown: []byte("\x0a\x01a")}},
		{field(api.Field{Default: "d"}), field(api.Field{Default: "d", Has: true})},
		{field(api.Field{}), field(api.Field{Has: true})},
		{{Deps: []string{"a", "b"}}, {Deps: []string{"b", "a"}}},
		{{Public: []int{0, 1}}, {Public: []int{1, 0}}},
		{{Messages: []api.Message{{}}}, {}},
		{{Messages: []api.Message{{Ranges: []api.Range{{}}}}}, {Messages: []api.Message{{Reserved: []api.Range{{}}}}}},
		{{Messages: nested(64)}, {Messages: nested(63)}},
		{{Messages: nested(65)}, {Messages: nested(64)}},
	}
	for _, c := range unlike {
		if desc.Same(c[0], c[1]) || desc.Same(c[1], c[0]) {
			t.Errorf("Same(%.500s)", fmt.Sprintf("%+v, %+v", c[0], c[1]))
		}
	}
	none := api.File{Deps: []string{}, Public: []int{}, Enums: []api.Enum{{Values: []api.Value{}, Options: []byte{}}}, Services: []api.Service{{Methods: []api.Method{}}},
		Messages: []api.Message{{Fields: []api.Field{}, Nested: []api.Message{}, Words: []string{}, Ranges: []api.Range{}, Unknown: []byte{}}}, Options: []byte{}}
	nils := api.File{Enums: make([]api.Enum, 1), Services: make([]api.Service, 1), Messages: make([]api.Message, 1)}
	if !desc.Same(none, nils) || !desc.Same(nils, none) || !desc.Same(api.File{}, api.File{}) {
		t.Error("what is empty isn't the same as what is nil")
	}
}

// P2: an answer is memory of its own, and what lies behind a length is left alone.
func TestMemory(t *testing.T) {
	room := []byte("unknown")
	f := api.File{Unknown: room[:2]}
	b, _ := desc.Bytes(f)
	clear(b[:cap(b)])
	if string(room) != "unknown" {
		t.Errorf("Bytes hands out what Unknown is: %q", room)
	}
	parts := []byte("options")
	f = api.File{Name: "a", Options: parts[:2], Messages: []api.Message{{Options: parts[:3], Unknown: parts[1:4]}}, Unknown: parts[:1]}
	first, _ := desc.Bytes(f)
	second, _ := desc.Bytes(f)
	set, _ := desc.Set([]api.File{f})
	want := bytes.Clone(second)
	clear(first[:cap(first)])
	clear(set[:cap(set)])
	if string(parts) != "options" || !bytes.Equal(second, want) {
		t.Errorf("answers share memory: %q, %x", parts, second)
	}
	kept := []api.File{{Name: "a"}, {Name: "b"}, {Messages: nested(65)}}
	if b, err := desc.Set(kept[:1]); string(b) != "\x0a\x03\x0a\x01a" || err != api.OK {
		t.Errorf("Set reads behind the length: %x, %d", b, err)
	}
}
