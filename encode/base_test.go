package encode_test

import (
	"encoding/hex"
	"math"
	"reflect"
	"slices"
	"strconv"
	"testing"

	"glossary/api"
	"glossary/encode"
	"glossary/pool"
)

// minus answers a number below 0 as a worth has it.
func minus(n int64) uint64 { return uint64(-n) }

// types are all types that there are.
func types() []int {
	return []int{1, 2, 3, 4, 5, 6, 7, 8, 9, 11, 12, 13, 14, 15, 16, 17, 18}
}

// edges are numbers at which something ends.
func edges() []uint64 {
	return []uint64{0, 1, 2, 127, 128, 1<<14 - 1, 1 << 14, 1<<31 - 1, 1 << 31, 1<<32 - 1, 1 << 32, 1<<63 - 1, 1 << 63, 1<<64 - 1<<32, minus(1<<31 + 1), minus(1 << 31), minus(64), minus(2), minus(1)}
}

// field answers one of a message; label 0 is LabelOptional.
func field(name string, number int64, label, kind int, typed string) api.Field {
	return api.Field{Name: name, Number: number, Label: max(label, api.LabelOptional), Type: kind, TypeName: typed, Json: name}
}

func extension(name, of string, number int64, label, kind int, typed string) api.Field {
	f := field(name, number, label, kind, typed)
	f.Extendee, f.Json = of, ""
	return f
}

// says answers a field with Options.
func says(f api.Field, options string) api.Field {
	f.Options = []byte(options)
	return f
}

func enum(name string, numbers ...int64) api.Enum {
	e := api.Enum{Name: name}
	for i, n := range numbers {
		e.Values = append(e.Values, api.Value{Name: name + strconv.Itoa(i), Number: n})
	}
	return e
}

// all answers a message that has a field of each type, by the type's number, a repeated one 100 above that, one that is written in one 200 above it, one that isn't 300, and extensions from 1000 on.
func all(pack string) api.Message {
	m := api.Message{Name: "All", Ranges: []api.Range{{From: 1000, To: 2000}}}
	names := map[int]string{api.TMessage: "." + pack + ".All", api.TEnum: "." + pack + ".E"}
	for _, kind := range types() {
		number, name := int64(kind), strconv.Itoa(kind)
		m.Fields = append(m.Fields, field("f"+name, number, 0, kind, names[kind]), field("r"+name, 100+number, 3, kind, names[kind]),
			says(field("p"+name, 200+number, 3, kind, names[kind]), "\x10\x01"), says(field("u"+name, 300+number, 3, kind, names[kind]), "\x10\x00"))
	}
	return m
}

// file answers one with All, an enum E, a message of required fields, one with a oneof and one with a map.
func file(name, pack, syntax string) api.File {
	need := api.Message{Name: "Need", Fields: []api.Field{field("a", 1, api.LabelRequired, api.TInt32, ""), field("b", 2, 0, api.TMessage, "."+pack+".Need")}}
	one := api.Message{Name: "One", Oneofs: []api.Oneof{{Name: "o"}}, Fields: []api.Field{field("a", 1, 0, api.TInt32, ""), field("b", 2, 0, api.TString, "")}}
	one.Fields[0].Oneof, one.Fields[1].Oneof = 1, 1
	entry := api.Message{Name: "Entry", Options: []byte{0x38, 1}, Fields: []api.Field{field("key", 1, 0, api.TString, ""), field("value", 2, 0, api.TSint32, "")}}
	maps := api.Message{Name: "Map", Nested: []api.Message{entry}, Fields: []api.Field{field("m", 1, 3, api.TMessage, "."+pack+".Map.Entry")}}
	return api.File{Name: name, Package: pack, Syntax: syntax, Messages: []api.Message{all(pack), need, one, maps, {Name: "None"}},
		Enums: []api.Enum{enum("E", 0, 5, -1, math.MinInt32, math.MaxInt32)}}
}

// base answers a file that isn't proto3, two, and one that is, three, each with extensions of the other's messages, and of its own.
func base() []api.File {
	two, three := file("a", "two", ""), file("b", "three", "proto3")
	for _, x := range []struct {
		own   *api.File
		other string
	}{{&two, "three"}, {&three, "two"}} {
		x.own.Extends = []api.Field{extension("x", "."+x.other+".All", 1000, 3, api.TInt32, ""), says(extension("y", "."+x.other+".All", 1001, 3, api.TEnum, "."+x.other+".E"), "\x10\x00"),
			says(extension("z", "."+x.other+".All", 1002, 3, api.TBool, ""), "\x10\x01"), extension("one", "."+x.own.Package+".All", 1003, 3, api.TSint64, ""), extension("m", "."+x.other+".All", 1004, 3, api.TMessage, "."+x.own.Package+".All")}
		x.own.Messages[0].Extends = []api.Field{extension("within", "."+x.other+".All", 1005, 3, api.TFixed32, "")}
	}
	return []api.File{two, three}
}

// made answers the pool of files that may be.
func made(t testing.TB, l ...api.File) *pool.Pool {
	t.Helper()
	p, full, err := pool.New(l)
	if err != api.OK {
		t.Fatalf("New: %q, %d", full, err)
	}
	return p
}

// msg answers a message of slots.
func msg(l ...api.Slot) api.Msg { return api.Msg{Slots: l} }

func slot(num int, l ...api.Val) api.Slot { return api.Slot{Num: num, Vals: l} }

// n, b and in answer worths: a number, bytes, a message.
func n(number uint64) api.Val { return api.Val{N: number} }

func b(text string) api.Val { return api.Val{B: []byte(text)} }

func in(l ...api.Slot) api.Val { return api.Val{M: msg(l...)} }

// ones answers a slot of numbers.
func ones(num int, l ...uint64) api.Slot {
	s := slot(num)
	for _, number := range l {
		s.Vals = append(s.Vals, n(number))
	}
	return s
}

func unknown(b string) api.Msg { return api.Msg{Unknown: []byte(b)} }

// copied answers a message in memory of its own.
func copied(m api.Msg) api.Msg {
	own := api.Msg{Unknown: slices.Clone(m.Unknown), Slots: slices.Clone(m.Slots)}
	for i := range own.Slots {
		own.Slots[i].Vals = slices.Clone(own.Slots[i].Vals)
		for k, v := range own.Slots[i].Vals {
			own.Slots[i].Vals[k] = api.Val{N: v.N, B: slices.Clone(v.B), M: copied(v.M)}
		}
	}
	return own
}

// nested answers so many messages within one another, by a field.
func nested(deep, num int, innermost api.Msg) api.Msg {
	m := innermost
	for range deep - 1 {
		m = msg(slot(num, api.Val{M: m}))
	}
	return m
}

// hold holds Msg against bytes, in hexadecimal.
func hold(t testing.TB, p *pool.Pool, full string, m api.Msg, want string) {
	t.Helper()
	before := copied(m)
	got, err := encode.Msg(p, full, m)
	if hex.EncodeToString(got) != want || err != api.OK {
		t.Errorf("Msg(%s, %+v): %x, %d, want %s", full, m, got, err, want)
	}
	if !reflect.DeepEqual(before, copied(m)) {
		t.Error("what was given is changed")
	}
}

// refuse holds that Msg takes no message.
func refuse(t testing.TB, p *pool.Pool, full string, m api.Msg) {
	t.Helper()
	if got, err := encode.Msg(p, full, m); len(got) > 0 || err != api.ErrType {
		t.Errorf("Msg(%s, %+v): %x, %d, want ErrType", full, m, got, err)
	}
}
