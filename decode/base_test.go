package decode_test

import (
	"encoding/binary"
	"encoding/hex"
	"math"
	"slices"
	"strconv"
	"strings"
	"testing"

	"glossary/api"
	"glossary/decode"
	"glossary/encode"
	"glossary/pool"
	"glossary/value"
)

// minus answers a number below 0 as a worth has it.
func minus(n int64) uint64 { return uint64(-n) }

// types are all types that there are.
func types() []int {
	return []int{1, 2, 3, 4, 5, 6, 7, 8, 9, 11, 12, 13, 14, 15, 16, 17, 18}
}

// edges are numbers at which something ends.
func edges() []uint64 {
	return []uint64{0, 1, 2, 5, 127, 128, 1<<14 - 1, 1 << 14, 1<<31 - 1, 1 << 31, 1<<32 - 1, 1 << 32, 1<<32 + 1, 1<<32 + 5, 1<<33 - 1, 1<<63 - 1, 1 << 63, 1<<64 - 1<<32, minus(1<<31 + 1), minus(1 << 31), minus(64), minus(2), minus(1)}
}

// field answers one of a message; label 0 is LabelOptional.
func field(name string, number int64, label, kind int, typed string) api.Field {
	return api.Field{Name: name, Number: number, Label: max(label, api.LabelOptional), Type: kind, TypeName: typed, Json: name}
}

func extension(name, of string, number int64, label, kind int, typed string) api.Field {
	f := field(name, number, label, kind, typed)
	f.Extendee, f.Json = of, ""
	return f
}

// says answers a field with Options.
func says(f api.Field, options string) api.Field {
	f.Options = []byte(options)
	return f
}

// oneof answers a field of one.
func oneof(f api.Field, which int) api.Field {
	f.Oneof = which
	return f
}

// entry answers a map's entry.
func entry(name string, key, worth int, typed string) api.Message {
	return api.Message{Name: name, Options: []byte{0x38, 1}, Fields: []api.Field{field("key", 1, 0, key, ""), field("value", 2, 0, worth, typed)}}
}

func enum(name string, numbers ...int64) api.Enum {
	e := api.Enum{Name: name}
	for i, n := range numbers {
		e.Values = append(e.Values, api.Value{Name: name + strconv.Itoa(i), Number: n})
	}
	return e
}

// all answers a message that has a field of each type, by the type's number, a repeated one 100 above that, one that is written in one 200 above it, and extensions from 1000 on.
func all(pack string) api.Message {
	m := api.Message{Name: "All", Ranges: []api.Range{{From: 1000, To: 2000}}}
	names := map[int]string{api.TMessage: "." + pack + ".All", api.TEnum: "." + pack + ".E"}
	for _, kind := range types() {
		number, name := int64(kind), strconv.Itoa(kind)
		m.Fields = append(m.Fields, field("f"+name, number, 0, kind, names[kind]), field("r"+name, 100+number, 3, kind, names[kind]), says(field("p"+name, 200+number, 3, kind, names[kind]), "\x10\x01"))
	}
	return m
}

// need answers a message of required fields, which stands in itself.
func need(pack string) api.Message {
	return api.Message{Name: "Need", Fields: []api.Field{field("a", 1, 2, api.TInt32, ""), field("b", 2, 0, api.TMessage, "."+pack+".Need"), field("c", 3, 3, api.TMessage, "."+pack+".Need"),
		field("d", 4, 0, api.TString, ""), field("e", 5, 2, api.TMessage, "."+pack+".All"), field("f", 6, 3, api.TSint32, "")}}
}

// one answers a message of oneofs.
func one(pack string) api.Message {
	m := api.Message{Name: "One", Oneofs: []api.Oneof{{Name: "o"}, {Name: "p"}}}
	for i, f := range []api.Field{field("a", 1, 0, api.TInt32, ""), field("b", 2, 0, api.TString, ""), field("c", 3, 0, api.TMessage, "."+pack+".One"), field("d", 4, 0, api.TEnum, "."+pack+".E"),
		field("e", 5, 0, api.TInt32, ""), field("f", 6, 0, api.TMessage, "."+pack+".Need"), field("g", 7, 0, api.TInt32, ""), field("h", 8, 3, api.TInt32, "")} {
		m.Fields = append(m.Fields, oneof(f, []int{1, 1, 1, 1, 2, 2, 0, 0}[i]))
	}
	return m
}

// maps answers a message of a map for each type of its keys, by the type's number, and one of messages as 100.
func maps(pack string) api.Message {
	m := api.Message{Name: "Maps"}
	for _, kind := range types() {
		e := entry("K"+strconv.Itoa(kind), kind, api.TString, "")
		e.Fields[0].TypeName = map[int]string{api.TMessage: "." + pack + ".All", api.TEnum: "." + pack + ".E"}[kind]
		m.Nested = append(m.Nested, e)
		m.Fields = append(m.Fields, field("m"+strconv.Itoa(kind), int64(kind), 3, api.TMessage, "."+pack+".Maps."+e.Name))
	}
	m.Nested = append(m.Nested, entry("Deep", api.TInt32, api.TMessage, "."+pack+".Need"))
	m.Fields = append(m.Fields, field("deep", 100, 3, api.TMessage, "."+pack+".Maps.Deep"), field("single", 101, 0, api.TMessage, "."+pack+".Maps.K5"))
	return m
}

func file(name, pack, syntax string) api.File {
	return api.File{Name: name, Package: pack, Syntax: syntax, Messages: []api.Message{all(pack), need(pack), one(pack), maps(pack), {Name: "None"}},
		Enums: []api.Enum{enum("E", 0, 5, -1, math.MinInt32, math.MaxInt32)}}
}

// base answers a file that isn't proto3, two, and one that is, three, each with extensions of the other's messages, and fields of its types.
func base() []api.File {
	two, three := file("a", "two", ""), file("b", "three", "proto3")
	for _, x := range []struct {
		own   *api.File
		other string
	}{{&two, "three"}, {&three, "two"}} {
		of, own := "."+x.other+".All", "."+x.own.Package
		x.own.Extends = []api.Field{extension("text", of, 1000, 0, api.TString, ""), extension("texts", of, 1001, 3, api.TString, ""), extension("e", of, 1002, 0, api.TEnum, "."+x.other+".E"),
			extension("es", of, 1003, 3, api.TEnum, own+".E"), extension("m", of, 1004, 0, api.TMessage, own+".All"), extension("x", own+".All", 1005, 3, api.TSint64, "")}
		x.own.Messages[0].Extends = []api.Field{extension("within", of, 1006, 3, api.TFixed32, "")}
		x.own.Messages = append(x.own.Messages, api.Message{Name: "Mixed", Fields: []api.Field{field("m", 1, 0, api.TMessage, of), field("e", 2, 0, api.TEnum, "."+x.other+".E"), field("r", 3, 3, api.TEnum, "."+x.other+".E")}})
	}
	return []api.File{two, three}
}

// made answers the pool of files that may be.
func made(t testing.TB, l ...api.File) *pool.Pool {
	t.Helper()
	p, full, err := pool.New(l)
	if err != api.OK {
		t.Fatalf("New: %q, %d", full, err)
	}
	return p
}

// of answers the pool of a message M of fields, in a file that isn't proto3.
func of(t testing.TB, l ...api.Field) *pool.Pool {
	t.Helper()
	return made(t, api.File{Name: "a", Messages: []api.Message{{Name: "M", Fields: l}, {Name: "N"}}})
}

// uv, i64, i32 and in answer a field's bytes: of a varint, of eight, of four, of as many as there are.
func uv(num int, n uint64) string {
	return tag(num, api.WireVarint) + string(binary.AppendUvarint(nil, n))
}

func i64(num int, n uint64) string {
	return tag(num, api.WireI64) + string(binary.LittleEndian.AppendUint64(nil, n))
}

func i32(num int, n uint32) string {
	return tag(num, api.WireI32) + string(binary.LittleEndian.AppendUint32(nil, n))
}

func in(num int, bytes ...string) string {
	all := strings.Join(bytes, "")
	return tag(num, api.WireLen) + string(binary.AppendUvarint(nil, uint64(len(all)))) + all
}

// tag answers that of a field.
func tag(num, kind int) string {
	return string(binary.AppendUvarint(nil, uint64(num)<<3|uint64(kind)))
}

// said answers a message in words: its slots as numbers with what they have, and what isn't known, in hexadecimal.
func said(m api.Msg) string {
	var l []string
	for _, s := range m.Slots {
		var vals []string
		for _, v := range s.Vals {
			vals = append(vals, saidVal(v))
		}
		l = append(l, strconv.Itoa(s.Num)+"="+strings.Join(vals, ","))
	}
	if len(m.Unknown) > 0 {
		l = append(l, "?"+hex.EncodeToString(m.Unknown))
	}
	return strings.Join(l, " ")
}

// saidVal answers a worth in words; 0 is one that has nothing.
func saidVal(v api.Val) string {
	var l []string
	if v.N != 0 {
		l = append(l, strconv.FormatInt(int64(v.N), 10))
	}
	if len(v.B) > 0 {
		l = append(l, strconv.Quote(string(v.B)))
	}
	if m := said(v.M); m != "" {
		l = append(l, "{"+m+"}")
	}
	if len(l) == 0 {
		return "0"
	}
	return strings.Join(l, "&")
}

// hold holds Msg against what is said of it, and what it answers against P19.3.
func hold(t testing.TB, p *pool.Pool, full, bytes, want string) {
	t.Helper()
	given := []byte(bytes)
	m, err := decode.Msg(p, full, given)
	if said(m) != want || err != api.OK {
		t.Errorf("Msg(%s, %x): %s, %d, want %s", full, bytes, said(m), err, want)
		return
	}
	if string(given) != bytes {
		t.Error("what was given is changed")
	}
	back(t, p, full, m)
}

// back holds that a message fits, is written, and comes back.
func back(t testing.TB, p *pool.Pool, full string, m api.Msg) {
	t.Helper()
	if !value.Fit(p, full, m) {
		t.Errorf("%s: %s doesn't fit", full, said(m))
	}
	b, err := encode.Msg(p, full, m)
	again, wrong := decode.Msg(p, full, b)
	if err != api.OK || wrong != api.OK || !value.Same(m, again) {
		t.Errorf("%s: %s comes back as %s, %d, %d", full, said(m), said(again), err, wrong)
	}
}

// refuse holds that Msg answers an error, and nothing beside it.
func refuse(t testing.TB, p *pool.Pool, full, bytes string, want api.Errno) {
	t.Helper()
	m, err := decode.Msg(p, full, []byte(bytes))
	if err != want || len(m.Slots)+len(m.Unknown) > 0 {
		t.Errorf("Msg(%s, %x): %s, %d, want %d", full, bytes, said(m), err, want)
	}
}

// try is bytes, and what is told of them.
type try struct {
	bytes string
	want  string
}

func holdAll(t testing.TB, p *pool.Pool, full string, l []try) {
	t.Helper()
	for _, x := range l {
		hold(t, p, full, x.bytes, x.want)
	}
}

// joined answers what is said of both, one behind the other.
func joined(l ...string) string {
	return strings.Join(slices.DeleteFunc(l, func(s string) bool { return s == "" }), " ")
}
