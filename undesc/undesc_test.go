package undesc_test

import (
	"bytes"
	"fmt"
	"math"
	"reflect"
	"strings"
	"testing"

	"glossary/api"
	"glossary/desc"
	"glossary/undesc"
)

// Numbers on the wire.
const (
	minus1  = "\xff\xff\xff\xff\xff\xff\xff\xff\xff\x01"
	least   = "\x80\x80\x80\x80\x80\x80\x80\x80\x80\x01" // -2^63
	most    = "\xff\xff\xff\xff\xff\xff\xff\xff\x7f"     // 2^63 - 1
	below31 = "\xff\xff\xff\xff\x07"                     // 2^31 - 1
	at31    = "\x80\x80\x80\x80\x08"                     // 2^31
)

// in lays bytes as a part or a text behind a tag of one byte.
func in(tag byte, parts ...string) string {
	b := strings.Join(parts, "")
	if len(b) > 127 {
		return string([]byte{tag, byte(len(b)) | 0x80, byte(len(b) >> 7)}) + b
	}
	return string([]byte{tag, byte(len(b))}) + b
}

// hold asks for a file.
func hold(t *testing.T, b string, want api.File) {
	t.Helper()
	got, err := undesc.File([]byte(b))
	if err != api.OK || !desc.Same(got, want) {
		t.Errorf("File(%x) = %+v, %d, want %+v", b, got, err, want)
	}
}

// refuse asks for an error, beside which there is nothing.
func refuse(t *testing.T, b string, want api.Errno) {
	t.Helper()
	got, err := undesc.File([]byte(b))
	if err != want || !reflect.ValueOf(got).IsZero() {
		t.Errorf("File(%x) = %+v, %d, want %d", b, got, err, want)
	}
}

// The places at which fields stand, and what is around them there.
func fieldPlaces(f api.Field, b string) map[string]api.File {
	l := []api.Field{f}
	return map[string]api.File{
		in(0x3a, b):                     {Extends: l},
		in(0x22, in(0x12, b)):           {Messages: []api.Message{{Fields: l}}},
		in(0x22, in(0x32, b)):           {Messages: []api.Message{{Extends: l}}},
		in(0x22, in(0x1a, in(0x12, b))): {Messages: []api.Message{{Nested: []api.Message{{Fields: l}}}}},
	}
}

// P12.1: the chapter's example, and nothing at all.
func TestExample(t *testing.T) {
	hold(t, "\x0a\x01\x61", api.File{Name: "a"})
	hold(t, "", api.File{})
	if f, err := undesc.File(nil); err != api.OK || !desc.Same(f, api.File{}) {
		t.Errorf("File(nil) = %+v, %d", f, err)
	}
}

// P12.1: a file's fields, in whatever order they come.
func TestFile(t *testing.T) {
	want := api.File{Name: "n", Package: "p", Deps: []string{"d", "", "e"}, Public: []int{2, 0, 300}, Messages: []api.Message{{Name: "M"}, {}},
		Enums: []api.Enum{{Name: "E"}, {}}, Services: []api.Service{{Name: "S"}, {}}, Extends: []api.Field{{Name: "X"}, {}},
		Syntax: "proto3", Options: []byte{8, 1}}
	hold(t, "\x0a\x01n\x12\x01p\x1a\x01d\x1a\x00\x1a\x01e"+
		"\x22\x03\x0a\x01M\x22\x00\x2a\x03\x0a\x01E\x2a\x00\x32\x03\x0a\x01S\x32\x00\x3a\x03\x0a\x01X\x3a\x00"+
		"\x42\x02\x08\x01\x50\x02\x50\x00\x50\xac\x02\x62\x06proto3", want)
	hold(t, "\x62\x06proto3\x50\x02\x42\x02\x08\x01\x3a\x03\x0a\x01X\x50\x00\x32\x03\x0a\x01S\x2a\x03\x0a\x01E\x22\x03\x0a\x01M"+
		"\x3a\x00\x32\x00\x2a\x00\x22\x00\x1a\x01d\x1a\x00\x50\xac\x02\x1a\x01e\x12\x01p\x0a\x01n", want)
	hold(t, "\x62\x01x", api.File{Syntax: "x"})
	hold(t, "\x0a\x02\xff\x00", api.File{Name: "\xff\x00"})
}

// P12.1: a message's fields.
func TestMessage(t *testing.T) {
	m := api.Message{Name: "M", Fields: []api.Field{{Name: "f"}, {}}, Nested: []api.Message{{Name: "N"}, {}}, Enums: []api.Enum{{Name: "E"}, {}},
		Ranges: []api.Range{{From: 1, To: 2}, {}}, Extends: []api.Field{{Name: "x"}, {}}, Oneofs: []api.Oneof{{Name: "o"}, {}},
		Reserved: []api.Range{{From: 3, To: 3}, {}}, Words: []string{"w", "", "v"}, Options: []byte{0x38, 1}}
	b := []string{"\x0a\x01M", "\x12\x03\x0a\x01f\x12\x00", "\x1a\x03\x0a\x01N\x1a\x00", "\x22\x03\x0a\x01E\x22\x00",
		"\x2a\x04\x08\x01\x10\x03\x2a\x04\x08\x00\x10\x01", "\x32\x03\x0a\x01x\x32\x00", "\x3a\x02\x38\x01", "\x42\x03\x0a\x01o\x42\x00",
		"\x4a\x04\x08\x03\x10\x04\x4a\x04\x08\x00\x10\x01", "\x52\x01w\x52\x00\x52\x01v"}
	hold(t, in(0x22, b...), api.File{Messages: []api.Message{m}})
	hold(t, in(0x22, in(0x1a, b...)), api.File{Messages: []api.Message{{Nested: []api.Message{m}}}})
}

// P12.1: a field's fields, wherever the field stands.
func TestField(t *testing.T) {
	cases := []struct {
		b    string
		want api.Field
	}{
		{"\x0a\x01f\x12\x02.X\x18\xac\x02\x20\x03\x28\x0b\x32\x02.T\x3a\x01d\x42\x02\x10\x01\x48\x01\x52\x01j\x88\x01\x01",
			api.Field{Name: "f", Number: 300, Label: 3, Type: 11, TypeName: ".T", Extendee: ".X", Default: "d", Has: true, Oneof: 2, Json: "j",
				Optional: true, Options: []byte{0x10, 1}}},
		{"", api.Field{}},
		{"\x18" + minus1, api.Field{Number: -1}},
		{"\x18" + least, api.Field{Number: math.MinInt64}},
		{"\x18" + most, api.Field{Number: math.MaxInt64}},
		{"\x18" + at31, api.Field{Number: 1 << 31}},
		{"\x20" + below31, api.Field{Label: math.MaxInt32}},
		{"\x28" + below31, api.Field{Type: math.MaxInt32}},
		{"\x20\x00\x28\x00", api.Field{}},
		{"\x3a\x00", api.Field{Has: true}},
		{"\x48\x00", api.Field{Oneof: 1}},
		{"\x48" + below31, api.Field{Oneof: 1 << 31}},
		{"\x88\x01\x00", api.Field{}},
		{"\x88\x01\x02", api.Field{Optional: true}},
		{"\x88\x01" + least, api.Field{Optional: true}},
	}
	for _, c := range cases {
		for b, want := range fieldPlaces(c.want, c.b) {
			hold(t, b, want)
		}
	}
}

// P12.1: what has bounds is refused beyond them, wherever it stands, and also where a better one comes behind.
func TestBounds(t *testing.T) {
	for _, n := range []string{at31, minus1, least, most, "\x80\x80\x80\x80\x10"} {
		refuse(t, "\x50"+n, api.ErrDesc)
		refuse(t, "\x0a\x01a\x50\x00\x50"+n+"\x50\x01", api.ErrDesc)
		for _, tag := range []string{"\x20", "\x28", "\x48"} {
			for b := range fieldPlaces(api.Field{}, tag+n) {
				refuse(t, b, api.ErrDesc)
			}
			for b := range fieldPlaces(api.Field{}, tag+n+tag+"\x01") {
				refuse(t, b, api.ErrDesc)
			}
		}
	}
	hold(t, "\x50"+below31+"\x50\x00", api.File{Public: []int{math.MaxInt32, 0}})
	long := "\x80\x80\x80\x80\x80\x00" // nought, in more bytes than it needs
	hold(t, "\x50"+long, api.File{Public: []int{0}})
}

// P12.1: of a range the number behind To is told; without it To is -1.
func TestRange(t *testing.T) {
	cases := []struct {
		b    string
		want api.Range
	}{
		{"", api.Range{To: -1}},
		{"\x08\x05", api.Range{From: 5, To: -1}},
		{"\x10\x05", api.Range{To: 4}},
		{"\x10\x00", api.Range{To: -1}},
		{"\x08\xe8\x07\x10\x80\x80\x80\x80\x02", api.Range{From: 1000, To: api.MaxField}},
		{"\x10\x05\x08\x01\x10\x03\x08\x02", api.Range{From: 2, To: 2}},
		{"\x08" + minus1 + "\x10" + minus1, api.Range{From: -1, To: -2}},
		{"\x08" + most + "\x10" + least, api.Range{From: math.MaxInt64, To: math.MaxInt64}},
		{"\x08" + least + "\x10" + most, api.Range{From: math.MinInt64, To: math.MaxInt64 - 1}},
		{"\x0a\x00\x12\x00\x18\x01\x0d\x01\x02\x03\x04", api.Range{To: -1}}, // of other kinds and numbers: a range keeps none
	}
	for _, c := range cases {
		l := []api.Range{c.want}
		hold(t, in(0x22, in(0x2a, c.b)), api.File{Messages: []api.Message{{Ranges: l}}})
		hold(t, in(0x22, in(0x4a, c.b)), api.File{Messages: []api.Message{{Reserved: l}}})
	}
}

// P12.1: enums and their values, oneofs, services and their methods.
func TestSmallParts(t *testing.T) {
	e := api.Enum{Name: "E", Values: []api.Value{{Name: "Z"}, {Name: "M", Number: -1, Options: []byte("o")}, {}}, Options: []byte("p")}
	b := "\x0a\x01E" + in(0x12, "\x0a\x01Z\x10\x00") + in(0x12, "\x0a\x01M\x10"+minus1+"\x1a\x01o") + in(0x12) + "\x1a\x01p"
	hold(t, in(0x2a, b), api.File{Enums: []api.Enum{e}})
	hold(t, in(0x22, in(0x22, b)), api.File{Messages: []api.Message{{Enums: []api.Enum{e}}}})
	hold(t, in(0x22, in(0x42, "\x0a\x01o\x12\x01p")), api.File{Messages: []api.Message{{Oneofs: []api.Oneof{{Name: "o", Options: []byte("p")}}}}})
	s := api.Service{Name: "S", Methods: []api.Method{{Name: "a", In: ".I", Out: ".O", Client: true, Server: true, Options: []byte("o")},
		{Client: true}, {Server: true}, {}, {}}, Options: []byte("p")}
	hold(t, in(0x32, "\x0a\x01S", in(0x12, "\x0a\x01a\x12\x02.I\x1a\x02.O\x22\x01o\x28\x01\x30\x01"),
		in(0x12, "\x28\x02"), in(0x12, "\x30"+minus1), in(0x12), in(0x12, "\x28\x00\x30\x00"), "\x1a\x01p"), api.File{Services: []api.Service{s}})
}

// P12.1: what comes again stands in place of the one ahead, be it nothing; lists grow.
func TestAgain(t *testing.T) {
	hold(t, "\x0a\x02ab\x12\x01p\x42\x02xy\x62\x01s\x0a\x01c\x42\x01z\x62\x00", api.File{Name: "c", Package: "p", Options: []byte("z")})
	hold(t, "\x0a\x01a\x42\x01x\x0a\x00\x42\x00", api.File{})
	for b, want := range fieldPlaces(api.Field{Number: 2, Oneof: 1, Has: true},
		"\x18\x01\x20\x01\x28\x01\x3a\x01d\x48\x05\x88\x01\x01"+"\x18\x02\x20\x00\x28\x00\x3a\x00\x48\x00\x88\x01\x00") {
		hold(t, b, want)
	}
	hold(t, "\x22\x03\x0a\x01A\x0a\x01n\x22\x03\x0a\x01A\x22\x03\x0a\x01B", api.File{Name: "n", Messages: []api.Message{{Name: "A"}, {Name: "A"}, {Name: "B"}}})
	hold(t, "\x50\x01\x1a\x01d\x50\x01\x1a\x01d", api.File{Deps: []string{"d", "d"}, Public: []int{1, 1}})
}

// P12.1: what the table hasn't, or has as another kind, is kept in the part in which it stands, as wire puts it.
func TestUnknown(t *testing.T) {
	hold(t, "\xa0\x06\x01\x08\x01\x0a\x01a\x50\x00\x52\x01\x00", api.File{Name: "a", Public: []int{0}, Unknown: []byte("\xa0\x06\x01\x08\x01\x52\x01\x00")})
	fixed := "\x49\x01\x02\x03\x04\x05\x06\x07\x08" + "\x5d\x01\x02\x03\x04"
	hold(t, fixed, api.File{Unknown: []byte(fixed)})
	hold(t, "\x88\x80\x00\x81\x00\x0a\x81\x00a\xfa\x80\x00\x82\x00ab", api.File{Name: "a", Unknown: []byte("\x08\x01\x7a\x02ab")}) // in no more bytes than it needs
	hold(t, "\xf8\xff\xff\xff\x0f\x05", api.File{Unknown: []byte("\xf8\xff\xff\xff\x0f\x05")})                                     // the greatest number of a field
	for b, want := range fieldPlaces(api.Field{Default: "d", Has: true, Oneof: 3, Unknown: []byte("\x38\x01\x4a\x00")},
		"\x3a\x01d\x48\x02"+"\x38\x01"+"\x4a\x00") {
		hold(t, b, want)
	}
	for b, want := range fieldPlaces(api.Field{Unknown: []byte("\x38\x01\x4a\x00\x22\x00\x8a\x01\x00\x58\x01")}, "\x38\x01\x4a\x00\x22\x00\x8a\x01\x00\x58\x01") {
		hold(t, b, want)
	}
	m := api.Message{Nested: []api.Message{{Unknown: []byte("\x58\x02")}}, Enums: []api.Enum{{Values: []api.Value{{Unknown: []byte("\x12\x00")}}, Unknown: []byte("\x20\x03")}},
		Oneofs: []api.Oneof{{Unknown: []byte("\x18\x04")}}, Unknown: []byte("\x58\x01\x50\x05")}
	hold(t, in(0x22, "\x58\x01", in(0x1a, "\x58\x02"), in(0x22, "\x20\x03", in(0x12, "\x12\x00")), in(0x42, "\x18\x04"), "\x50\x05"), api.File{Messages: []api.Message{m}})
	s := api.Service{Methods: []api.Method{{Unknown: []byte("\x2a\x00\x32\x00\x38\x01")}}, Unknown: []byte("\x20\x01")}
	hold(t, in(0x32, in(0x12, "\x2a\x00\x32\x00\x38\x01"), "\x20\x01"), api.File{Services: []api.Service{s}})
}

// P12.1: bytes that wire doesn't read, in the file and in whatever stands in it.
func TestWireErrors(t *testing.T) {
	broken := map[string]api.Errno{
		"\x0a":                     api.ErrVarint,
		"\xff":                     api.ErrVarint,
		"\x08":                     api.ErrVarint,
		"\x00":                     api.ErrTag,
		"\x02\x00":                 api.ErrTag,
		"\x0b":                     api.ErrTag,
		"\x0c":                     api.ErrTag,
		"\x0e\x01":                 api.ErrTag,
		"\x0a\x02a":                api.ErrWire,
		"\x0d\x01\x02":             api.ErrWire,
		"\x09\x01":                 api.ErrWire,
		"\x0a" + most:              api.ErrWire,
		"\x80\x80\x80\x80\x10\x01": api.ErrTag,
	}
	for b, want := range broken {
		refuse(t, b, want)
		refuse(t, "\x0a\x01a\x50\x01"+b, want)
		for _, tag := range []byte{0x22, 0x2a, 0x32, 0x3a} {
			refuse(t, in(tag, b), want)
			refuse(t, in(tag, "\x0a\x01a"+b)+"\x0a\x01a", want)
		}
		for _, tag := range []byte{0x12, 0x1a, 0x22, 0x2a, 0x32, 0x42, 0x4a} {
			refuse(t, in(0x22, in(tag, b)), want)
		}
		refuse(t, in(0x2a, in(0x12, b)), want)
		refuse(t, in(0x32, in(0x12, b)), want)
		// Texts, bytes and what nobody knows are not gone into.
		hold(t, in(0x0a, b)+in(0x42, b)+in(0x7a, b), api.File{Name: b, Options: []byte(b), Unknown: []byte(in(0x7a, b))})
	}
}

// P12.1: of several errors the first, but what a part itself can't be read for comes ahead of what stands in it.
func TestErrorOrder(t *testing.T) {
	tag, short, place := in(0x22, "\x00"), in(0x2a, "\x0a\x02a"), "\x50"+at31
	label := in(0x3a, "\x20"+at31)
	deep := deepBytes(65)
	for _, c := range []struct {
		parts []string
		want  api.Errno
	}{
		{[]string{tag, short}, api.ErrTag},
		{[]string{short, tag}, api.ErrWire},
		{[]string{tag, place}, api.ErrTag},
		{[]string{place, tag}, api.ErrDesc},
		{[]string{label, short}, api.ErrDesc},
		{[]string{short, label}, api.ErrWire},
		{[]string{deep, label}, api.ErrLong},
		{[]string{label, deep}, api.ErrDesc},
		{[]string{deep, tag}, api.ErrLong},
		{[]string{tag, deep}, api.ErrTag},
		{[]string{tag, place, deep, "\x0a"}, api.ErrVarint},
		{[]string{label, "\x0a\x05"}, api.ErrWire},
	} {
		refuse(t, strings.Join(c.parts, ""), c.want)
	}
	refuse(t, in(0x22, in(0x12, "\x20"+at31), in(0x1a, "\x00"), "\x0a\x02a"), api.ErrWire)
	refuse(t, in(0x22, in(0x12, "\x20"+at31+"\x00"), in(0x1a, "\x0a\x02a")), api.ErrTag)
}

// deepBytes answers a file of so many messages within one another, with something within the last one.
func deepBytes(deep int, within ...string) string {
	b := strings.Join(within, "")
	for range deep - 1 {
		b = in(0x1a, b)
	}
	return in(0x22, b)
}

// nested answers so many messages within one another.
func nested(deep int) []api.Message {
	var l []api.Message
	for range deep {
		l = []api.Message{{Nested: l}}
	}
	return l
}

// P12.1: as deep as it may be, and one more.
func TestDeep(t *testing.T) {
	for deep := 1; deep <= 64; deep++ {
		hold(t, deepBytes(deep), api.File{Messages: nested(deep)})
	}
	for _, deep := range []int{65, 66, 100, 1000} {
		refuse(t, deepBytes(deep), api.ErrLong)
	}
	refuse(t, deepBytes(64, in(0x1a, "\x00")), api.ErrLong) // too deep, whatever its bytes are
	refuse(t, deepBytes(64, in(0x1a)+"\x00"), api.ErrTag)
	refuse(t, deepBytes(64, in(0x12, "\x20"+at31), in(0x1a)), api.ErrDesc)
	hold(t, in(0x22)+deepBytes(64)+in(0x22), api.File{Messages: append(append(nested(1), nested(64)...), nested(1)...)})
	// A field of another kind is no message, nor is what stands beside the messages.
	f, err := undesc.File([]byte(deepBytes(64, "\x18\x01", in(0x12), in(0x22, in(0x12)), in(0x42))))
	if err != api.OK || desc.Deep(f) != 64 {
		t.Errorf("%d messages, %d", desc.Deep(f), err)
	}
}

// P12.2: fields 1 of the right kind are files, all others are passed over.
func TestSet(t *testing.T) {
	a := api.File{Name: "a"}
	cases := []struct {
		b    string
		want []api.File
	}{
		{"", nil},
		{"\x0a\x00", []api.File{{}}},
		{"\x0a\x03\x0a\x01a", []api.File{a}},
		{"\x0a\x03\x0a\x01a\x0a\x00\x0a\x03\x0a\x01a\x0a\x05\x0a\x01b\x08\x01", []api.File{a, {}, a, {Name: "b", Unknown: []byte("\x08\x01")}}},
		{"\x08\x01\x12\x01\x00\x0a\x03\x0a\x01a\x0d\x01\x02\x03\x04\xa0\x06\x01\x22\x02\x0a\x00", []api.File{a}},
		{"\x08\x01", nil},
		{"\x8a\x00\x83\x00\x0a\x01a", []api.File{a}},
	}
	for _, c := range cases {
		got, err := undesc.Set([]byte(c.b))
		if err != api.OK || len(got) != len(c.want) {
			t.Errorf("Set(%x) = %+v, %d, want %+v", c.b, got, err, c.want)
			continue
		}
		for i, f := range got {
			if !desc.Same(f, c.want[i]) {
				t.Errorf("Set(%x)[%d] = %+v, want %+v", c.b, i, f, c.want[i])
			}
		}
	}
}

// P12.2: the first error; the set's own bytes come ahead of the files in them.
func TestSetErrors(t *testing.T) {
	file := "\x0a\x03\x0a\x01a"
	long := in(0x0a, deepBytes(65))
	for _, c := range []struct {
		b    string
		want api.Errno
	}{
		{"\x00", api.ErrTag},
		{"\x0a", api.ErrVarint},
		{file + "\x0a\x04\x0a\x01a", api.ErrWire},
		{file + in(0x0a, "\x50"+at31) + in(0x0a, "\x00"), api.ErrDesc},
		{in(0x0a, "\x00") + in(0x0a, "\x50"+at31), api.ErrTag},
		{in(0x0a, "\x00") + "\x12\x05", api.ErrWire},
		{file + long + file, api.ErrLong},
		{in(0x0a, "\x0a\x02a") + long, api.ErrWire},
	} {
		if l, err := undesc.Set([]byte(c.b)); err != c.want || len(l) != 0 {
			t.Errorf("Set(%x) = %+v, %d, want %d", c.b, l, err, c.want)
		}
	}
}

// unknowns counts the bytes of Unknown in v and its parts.
func unknowns(v reflect.Value) int {
	count := 0
	switch v.Kind() {
	case reflect.Struct:
		for i := range v.NumField() {
			if v.Type().Field(i).Name == "Unknown" {
				count += v.Field(i).Len()
			}
			count += unknowns(v.Field(i))
		}
	case reflect.Slice:
		for i := range v.Len() {
			count += unknowns(v.Index(i))
		}
	}
	return count
}

// P12.3: Unknown is gone everywhere, all else is as it was.
func TestClean(t *testing.T) {
	f := whole(3)
	before := copied(f)
	got := undesc.Clean(f)
	if n := unknowns(reflect.ValueOf(f)); n < 50 {
		t.Fatalf("the file has only %d bytes of Unknown", n)
	}
	if n := unknowns(reflect.ValueOf(got)); n != 0 {
		t.Errorf("%d bytes of Unknown are left", n)
	}
	want := copied(f)
	clearUnknown(reflect.ValueOf(&want).Elem())
	if !desc.Same(got, want) {
		t.Errorf("Clean = %+v, want %+v", got, want)
	}
	if !reflect.DeepEqual(f, before) {
		t.Error("Clean has changed the file")
	}
	if !desc.Same(undesc.Clean(got), got) || !desc.Same(undesc.Clean(api.File{}), api.File{}) || !desc.Same(undesc.Clean(api.File{Unknown: []byte("u")}), api.File{}) {
		t.Error("what is clean doesn't stay as it is")
	}
	empty := api.File{Deps: []string{}, Messages: []api.Message{{Fields: []api.Field{}}, {}}, Options: []byte{}, Unknown: []byte{}}
	if !desc.Same(undesc.Clean(empty), api.File{Messages: make([]api.Message, 2)}) {
		t.Errorf("Clean(%+v) = %+v", empty, undesc.Clean(empty))
	}
}

func clearUnknown(v reflect.Value) {
	switch v.Kind() {
	case reflect.Struct:
		if unknown := v.FieldByName("Unknown"); unknown.IsValid() {
			unknown.SetZero()
		}
		for i := range v.NumField() {
			clearUnknown(v.Field(i))
		}
	case reflect.Slice:
		for i := range v.Len() {
			clearUnknown(v.Index(i))
		}
	}
}

// P12.3: messages deeper than 64 are gone, and those alone.
func TestCleanDeep(t *testing.T) {
	for deep := range 140 {
		got := undesc.Clean(api.File{Name: "a", Messages: append(nested(deep), nested(min(deep, 2))...)})
		want := api.File{Name: "a", Messages: append(nested(min(deep, 64)), nested(min(deep, 2))...)}
		if !desc.Same(got, want) {
			t.Errorf("%d messages within one another: %d are left", deep, desc.Deep(got))
		}
	}
	at := func(l []api.Message, deep int) *api.Message {
		for range deep - 1 {
			l = l[0].Nested
		}
		return &l[0]
	}
	f := api.File{Messages: nested(70)}
	for deep := 1; deep <= 70; deep++ {
		m := at(f.Messages, deep)
		m.Name, m.Words, m.Unknown = fmt.Sprint(deep), []string{"w"}, []byte("u")
	}
	got := undesc.Clean(f)
	for deep := 1; deep <= 64; deep++ {
		if m := at(got.Messages, deep); m.Name != fmt.Sprint(deep) || len(m.Words) != 1 || len(m.Unknown) != 0 {
			t.Errorf("message %d is %+v", deep, m)
		}
	}
	if len(at(got.Messages, 64).Nested) != 0 {
		t.Error("there is something within message 64")
	}
}

// P1: a list that stands within itself has no end, and all calls have one.
func TestWithinItself(t *testing.T) {
	one := []api.Message{{Name: "A", Unknown: []byte("u")}}
	one[0].Nested = one
	got := undesc.Clean(api.File{Messages: one})
	if desc.Deep(got) != 64 || unknowns(reflect.ValueOf(got)) != 0 {
		t.Errorf("%d messages are left", desc.Deep(got))
	}
	two := []api.Message{{Name: "A"}, {Name: "B", Unknown: []byte("u")}}
	two[0].Nested, two[1].Nested = two, two
	got = undesc.Clean(api.File{Name: "a", Messages: two})
	// Nobody can copy all of it; what is told is told whole and clean.
	if got.Name != "a" || desc.Deep(got) > 64 || len(got.Messages) != 2 || got.Messages[1].Name != "B" || unknowns(reflect.ValueOf(got)) != 0 {
		t.Errorf("Clean = %d messages of %d levels", len(got.Messages), desc.Deep(got))
	}
}

// P12.4 at the edges of what has bounds.
func TestBackEdges(t *testing.T) {
	for _, f := range []api.File{
		{},
		{Public: []int{0, math.MaxInt32}},
		{Extends: []api.Field{{Oneof: 1}, {Oneof: math.MaxInt32}, {Label: math.MaxInt32, Type: math.MaxInt32}, {Has: true}, {Number: math.MinInt64}}},
		{Messages: []api.Message{{Ranges: []api.Range{{}, {From: -1, To: -1}, {From: math.MaxInt64, To: math.MaxInt64}, {From: math.MinInt64, To: math.MinInt64}}}}},
		{Messages: nested(64)},
		{Enums: []api.Enum{{Values: []api.Value{{}, {Number: math.MinInt64}, {Number: math.MaxInt64}}}}},
		{Deps: []string{""}, Messages: []api.Message{{Words: []string{"", ""}}}, Options: []byte{0}},
	} {
		b, err := desc.Bytes(f)
		if err != api.OK {
			t.Fatalf("Bytes(%+v): %d", f, err)
		}
		hold(t, string(b), f)
	}
}

// P2, P3: nothing that is given is changed, answers have memory of their own, and only what is within the length is read.
func TestMemory(t *testing.T) {
	f := whole(2)
	b, _ := desc.Bytes(undesc.Clean(f))
	b = append(b, "\x7a\x02uv"...)
	before := bytes.Clone(b)
	first, err := undesc.File(b)
	second, _ := undesc.File(b)
	if err != api.OK || !bytes.Equal(b, before) {
		t.Fatalf("File has changed the bytes, or has an error: %d", err)
	}
	want := copied(second)
	scribble(reflect.ValueOf(&first).Elem())
	if !bytes.Equal(b, before) || !reflect.DeepEqual(second, want) {
		t.Error("a file shares memory with its bytes, or with another one")
	}
	clear(b)
	if !reflect.DeepEqual(second, want) {
		t.Error("a file shares memory with its bytes")
	}
	given, own := copied(f), undesc.Clean(f)
	scribble(reflect.ValueOf(&own).Elem())
	if !reflect.DeepEqual(f, given) {
		t.Error("Clean shares memory with what it is given")
	}
	long := []byte("\x0a\x01a\x0a\x01b")
	if f, err := undesc.File(long[:3]); err != api.OK || f.Name != "a" || !desc.Same(f, api.File{Name: "a"}) {
		t.Errorf("File reads behind the length: %+v, %d", f, err)
	}
	list := []api.Enum{{Name: "E"}, {Name: "F"}}
	if c := undesc.Clean(api.File{Enums: list[:1]}); len(c.Enums) != 1 || cap(c.Enums) > 1 && c.Enums[:2][1].Name != "" {
		t.Errorf("Clean reads behind the length: %+v", c)
	}
}

// scribble writes into every list of v, behind its length too.
func scribble(v reflect.Value) {
	switch v.Kind() {
	case reflect.Struct:
		for i := range v.NumField() {
			scribble(v.Field(i))
		}
	case reflect.Slice:
		for i := range v.Len() {
			scribble(v.Index(i))
		}
		all := v.Slice(0, v.Cap())
		for i := range all.Len() {
			all.Index(i).SetZero()
		}
	}
}

// LANGUAGE's rule 7: no two lists of one answer share memory.
func TestListsApart(t *testing.T) {
	b := in(0x42, "xyz") + in(0x7a, "uvw") + in(0x22, in(0x3a, "opq"), in(0x7a, "rst")) + in(0x22, in(0x3a, "lmn"))
	f, err := undesc.File([]byte(b))
	if err != api.OK {
		t.Fatal(err)
	}
	lists := func(f *api.File) [][]byte {
		return [][]byte{f.Options, f.Unknown, f.Messages[0].Options, f.Messages[0].Unknown, f.Messages[1].Options}
	}
	for i, l := range lists(&f) {
		before := copied(f)
		clear(l[:cap(l)])
		for k, want := range lists(&before) {
			if k != i && !bytes.Equal(lists(&f)[k], want) {
				t.Errorf("lists %d and %d share memory", i, k)
			}
		}
	}
}
