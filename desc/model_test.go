package desc_test

import (
	"encoding/binary"
	"math"
	"math/rand/v2"
	"reflect"
	"strconv"
	"strings"
	"testing"

	"glossary/api"
	"glossary/desc"
)

// table is the chapter's, word for word but for what it says beside the names: ! is always there, - is one less, + one more.
const table = `
File: 1 Name, 2 Package, 3 Deps, 4 Messages, 5 Enums, 6 Services, 7 Extends, 8 Options, 10 Public, 12 Syntax
Message: 1 Name, 2 Fields, 3 Nested, 4 Enums, 5 Ranges, 6 Extends, 7 Options, 8 Oneofs, 9 Reserved, 10 Words
Field: 1 Name, 2 Extendee, 3 Number, 4 Label, 5 Type, 6 TypeName, 7 Default, 8 Options, 9 Oneof-, 10 Json, 17 Optional
Range: 1 From!, 2 To!+
Oneof: 1 Name, 2 Options
Enum: 1 Name, 2 Values, 3 Options
Value: 1 Name, 2 Number!, 3 Options
Service: 1 Name, 2 Methods, 3 Options
Method: 1 Name, 2 In, 3 Out, 4 Options, 5 Client, 6 Server
`

// entry is a field of a type, as the table says it.
type entry struct {
	num    int
	name   string
	always bool
	add    int64
}

// entries answers what the table says, by type.
func entries() map[string][]entry {
	all := map[string][]entry{}
	for line := range strings.Lines(strings.TrimSpace(table)) {
		of, list, _ := strings.Cut(strings.TrimSpace(line), ": ")
		for word := range strings.SplitSeq(list, ", ") {
			num, name, _ := strings.Cut(word, " ")
			e := entry{name: strings.TrimRight(name, "!+-"), always: strings.Contains(name, "!")}
			e.num, _ = strconv.Atoi(num)
			e.add = int64(strings.Count(name, "+") - strings.Count(name, "-"))
			all[of] = append(all[of], e)
		}
	}
	return all
}

// model answers the bytes of a part by the table, from what the part's type itself tells of its fields.
func model(all map[string][]entry, part reflect.Value) []byte {
	var b []byte
	for _, e := range all[part.Type().Name()] {
		v := part.FieldByName(e.name)
		switch {
		case v.Kind() == reflect.Slice && v.Type().Elem().Kind() != reflect.Uint8:
			for i := range v.Len() {
				b = append(b, modelField(all, e, v.Index(i))...)
			}
		case e.always, e.name == "Default" && part.FieldByName("Has").Bool(), modelThere(v):
			b = append(b, modelField(all, e, v)...)
		}
	}
	if unknown := part.FieldByName("Unknown"); unknown.IsValid() {
		b = append(b, unknown.Bytes()...)
	}
	return b
}

func modelThere(v reflect.Value) bool {
	if v.Kind() == reflect.Slice {
		return v.Len() > 0
	}
	return !v.IsZero()
}

func modelField(all map[string][]entry, e entry, v reflect.Value) []byte {
	var n uint64
	var b []byte
	switch v.Kind() {
	case reflect.Int, reflect.Int64:
		n = uint64(v.Int() + e.add)
	case reflect.Bool:
		n = 1
	case reflect.String:
		b = []byte(v.String())
	case reflect.Slice:
		b = v.Bytes()
	default:
		b = model(all, v)
	}
	if v.CanInt() || v.Kind() == reflect.Bool {
		return binary.AppendUvarint(binary.AppendUvarint(nil, uint64(8*e.num)), n)
	}
	return append(binary.AppendUvarint(binary.AppendUvarint(nil, uint64(8*e.num+2)), uint64(len(b))), b...)
}

// sampler fills files by chance that is the same each time.
type sampler struct {
	*rand.Rand
	full bool // all is there, in every part
}

func sample(seed uint64) api.File {
	var f api.File
	s := sampler{Rand: rand.New(rand.NewPCG(seed, 11))}
	s.fill(reflect.ValueOf(&f).Elem(), 3)
	return f
}

// whole answers a file in which nothing is zero, down to so many messages within one another.
func whole(deep int) api.File {
	var f api.File
	s := sampler{rand.New(rand.NewPCG(1, 11)), true}
	s.fill(reflect.ValueOf(&f).Elem(), deep)
	return f
}

func (s sampler) fill(v reflect.Value, deep int) {
	if !s.full && v.Kind() != reflect.Struct && s.IntN(3) == 0 {
		return
	}
	switch v.Kind() {
	case reflect.Struct:
		for i := range v.NumField() {
			s.fill(v.Field(i), deep)
		}
	case reflect.String:
		v.SetString(string(s.bytes()))
	case reflect.Bool:
		v.SetBool(true)
	case reflect.Int, reflect.Int64:
		v.SetInt(s.number())
	case reflect.Slice:
		if v.Type().Elem().Kind() == reflect.Uint8 {
			v.SetBytes(s.bytes())
			return
		}
		if v.Type() == reflect.TypeFor[[]api.Message]() {
			deep--
		}
		if deep < 0 {
			return
		}
		l := reflect.MakeSlice(v.Type(), 1+s.IntN(2), 8)
		for i := range l.Len() {
			s.fill(l.Index(i), deep)
		}
		v.Set(l)
	}
}

func (s sampler) bytes() []byte {
	b := make([]byte, 1+s.IntN(6))
	for i := range b {
		b[i] = byte(s.IntN(256))
	}
	if s.IntN(40) == 0 {
		b = append(b, make([]byte, 130)...)
	}
	return b
}

func (s sampler) number() int64 {
	edges := []int64{1, 2, -1, 127, 128, 1 << 31, -1 << 31, 1<<31 - 1, math.MaxInt64, math.MinInt64}
	if s.IntN(2) == 0 {
		return edges[s.IntN(len(edges))]
	}
	return 1 + s.Int64N(1<<s.IntN(60))
}

// holdModel holds Bytes against the model, and all calls against each other.
func holdModel(t *testing.T, f api.File) []byte {
	t.Helper()
	before := copied(f)
	got, err := desc.Bytes(f)
	want := model(entries(), reflect.ValueOf(f))
	if err != api.OK || string(got) != string(want) {
		t.Fatalf("Bytes(%+v) = %x, %d, want %x", f, got, err, want)
	}
	if deep := desc.Deep(f); deep != modelDeep(f.Messages) {
		t.Fatalf("Deep(%+v) = %d, want %d", f, deep, modelDeep(f.Messages))
	}
	if !desc.Same(f, before) || !reflect.DeepEqual(f, before) {
		t.Fatalf("%+v isn't the same any more, or not as its copy", f)
	}
	return got
}

func modelDeep(l []api.Message) int {
	deepest := 0
	for _, m := range l {
		deepest = max(deepest, 1+modelDeep(m.Nested))
	}
	return deepest
}

// copied answers a file in memory of its own.
func copied(f api.File) api.File {
	var own api.File
	copyInto(reflect.ValueOf(&own).Elem(), reflect.ValueOf(f))
	return own
}

func copyInto(to, from reflect.Value) {
	switch {
	case from.Kind() == reflect.Struct:
		for i := range from.NumField() {
			copyInto(to.Field(i), from.Field(i))
		}
	case from.Kind() == reflect.Slice && !from.IsNil():
		to.Set(reflect.MakeSlice(from.Type(), from.Len(), from.Len()))
		for i := range from.Len() {
			copyInto(to.Index(i), from.Index(i))
		}
	default:
		to.Set(from)
	}
}

// The model has each field of each type but Has and Unknown, so that nothing is left unasked.
func TestModelWhole(t *testing.T) {
	all := entries()
	parts := []any{api.File{}, api.Message{}, api.Field{}, api.Range{}, api.Oneof{}, api.Enum{}, api.Value{}, api.Service{}, api.Method{}}
	for _, part := range parts {
		of := reflect.TypeOf(part)
		said := map[string]int{"Unknown": 0, "Has": 0}
		for _, e := range all[of.Name()] {
			said[e.name] = e.num
		}
		for i := range of.NumField() {
			if _, is := said[of.Field(i).Name]; !is {
				t.Errorf("the model has no %s of a %s", of.Field(i).Name, of.Name())
			}
		}
	}
	if len(all) != len(parts) {
		t.Errorf("the model has %d types", len(all))
	}
}

// P11.1, P11.2, P11.4 on files by chance.
func TestModel(t *testing.T) {
	var l []api.File
	var want []byte
	for seed := range uint64(300) {
		f := sample(seed)
		b := holdModel(t, f)
		l = append(l, f)
		want = append(binary.AppendUvarint(append(want, 0x0a), uint64(len(b))), b...)
	}
	holdModel(t, whole(4))
	if got, err := desc.Set(l); err != api.OK || string(got) != string(want) {
		t.Errorf("Set of %d files: %d bytes, %d, want %d bytes", len(l), len(got), err, len(want))
	}
}

// P11.3 on files by chance: each is the same as its twin and as no other.
func TestModelSame(t *testing.T) {
	var l []api.File
	for seed := range uint64(20) {
		l = append(l, sample(seed), sample(seed))
	}
	for i, a := range l {
		for k, b := range l {
			if got := desc.Same(a, b); got != (i/2 == k/2) {
				t.Fatalf("Same of files %d and %d is %v", i/2, k/2, got)
			}
		}
	}
}

func FuzzSeed(f *testing.F) {
	for seed := range uint64(10) {
		f.Add(seed)
	}
	f.Fuzz(func(t *testing.T, seed uint64) {
		holdModel(t, sample(seed))
	})
}

func FuzzField(f *testing.F) {
	f.Add("f", ".a.B", "x", int64(1), 1, 5, 1, true, true, []byte{8, 1}, []byte{0xa0, 6, 1})
	f.Add("", "", "", int64(-1), -1, math.MinInt, math.MinInt, false, true, []byte{}, []byte{})
	f.Add("", "", "", int64(0), 0, 0, 0, true, false, []byte{}, []byte{})
	f.Fuzz(func(t *testing.T, name, typeName, worth string, number int64, label, of, oneof int, has, optional bool, options, unknown []byte) {
		field := api.Field{Name: name, TypeName: typeName, Extendee: typeName, Default: worth, Has: has, Json: name,
			Number: number, Label: label, Type: of, Oneof: oneof, Optional: optional, Options: options, Unknown: unknown}
		span := []api.Range{{From: number, To: int64(label)}, {From: int64(oneof), To: number}}
		holdModel(t, api.File{Name: name, Deps: []string{worth, name}, Public: []int{label, of}, Extends: []api.Field{field},
			Messages: []api.Message{{Fields: []api.Field{field, {}}, Ranges: span, Reserved: span[1:], Words: []string{worth}}},
			Enums:    []api.Enum{{Values: []api.Value{{Number: number}, {Name: name, Unknown: unknown}}}}})
	})
}
