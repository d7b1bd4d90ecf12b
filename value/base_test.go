package value_test

import (
	"math"
	"reflect"
	"slices"
	"strconv"
	"testing"

	"glossary/api"
	"glossary/pool"
	"glossary/value"
)

// minus answers a number below 0 as a worth has it.
func minus(n int64) uint64 { return uint64(-n) }

// types are all types that there are.
func types() []int {
	return []int{1, 2, 3, 4, 5, 6, 7, 8, 9, 11, 12, 13, 14, 15, 16, 17, 18}
}

// field answers one of a message; label 0 is LabelOptional.
func field(name string, number int64, label, kind int, typed string) api.Field {
	return api.Field{Name: name, Number: number, Label: max(label, api.LabelOptional), Type: kind, TypeName: typed, Json: name}
}

func extension(name, of string, number int64, label, kind int, typed string) api.Field {
	f := field(name, number, label, kind, typed)
	f.Extendee, f.Json = of, ""
	return f
}

// entry answers a map's entry.
func entry(name string, key, worth int, typed string) api.Message {
	return api.Message{Name: name, Options: []byte{0x38, 1}, Fields: []api.Field{field("key", 1, 0, key, ""), field("value", 2, 0, worth, typed)}}
}

func enum(name string, numbers ...int64) api.Enum {
	e := api.Enum{Name: name}
	for i, n := range numbers {
		e.Values = append(e.Values, api.Value{Name: name + strconv.Itoa(i), Number: n})
	}
	return e
}

// all answers a message that has a field of each type, by the type's number, a repeated one 100 above that, and extensions from 200 on.
func all(pack string) api.Message {
	m := api.Message{Name: "All", Ranges: []api.Range{{From: 200, To: 300}}}
	names := map[int]string{api.TMessage: "." + pack + ".All", api.TEnum: "." + pack + ".E"}
	for _, kind := range types() {
		m.Fields = append(m.Fields, field("f"+strconv.Itoa(kind), int64(kind), 0, kind, names[kind]))
		m.Fields = append(m.Fields, field("r"+strconv.Itoa(kind), int64(100+kind), api.LabelRepeated, kind, names[kind]))
	}
	return m
}

// file answers one with All, an enum E, a message of required fields, one of oneofs and one of maps.
func file(name, pack, syntax string) api.File {
	need := api.Message{Name: "Need", Fields: []api.Field{field("a", 1, api.LabelRequired, api.TInt32, ""), field("b", 2, 0, api.TInt32, ""),
		field("c", 3, api.LabelRequired, api.TString, ""), field("d", 4, api.LabelRepeated, api.TMessage, "."+pack+".Need")}}
	one := api.Message{Name: "One", Oneofs: []api.Oneof{{Name: "o"}, {Name: "p"}}}
	for i, oneof := range []int{1, 1, 1, 2, 2, 0, 0} {
		f := field("f"+strconv.Itoa(i+1), int64(i+1), 0, api.TInt32, "")
		f.Oneof = oneof
		one.Fields = append(one.Fields, f)
	}
	maps := api.Message{Name: "Maps"}
	for _, kind := range types() {
		name := "K" + strconv.Itoa(kind)
		typed := map[int]string{api.TMessage: "." + pack + ".All", api.TEnum: "." + pack + ".E"}[kind]
		e := entry(name, kind, api.TString, "")
		e.Fields[0].TypeName = typed
		maps.Nested = append(maps.Nested, e)
		maps.Fields = append(maps.Fields, field("m"+strconv.Itoa(kind), int64(kind), api.LabelRepeated, api.TMessage, "."+pack+".Maps."+name))
	}
	return api.File{Name: name, Package: pack, Syntax: syntax, Messages: []api.Message{all(pack), need, one, maps, {Name: "None"}},
		Enums: []api.Enum{enum("E", 0, 5, -1, math.MinInt32, math.MaxInt32)}}
}

// base answers a file that isn't proto3, two, and one that is, three, each with fields of the other's types and extensions of the other's messages.
func base() []api.File {
	two, three := file("a", "two", ""), file("b", "three", "proto3")
	two.Extends = []api.Field{extension("text", ".three.All", 200, 0, api.TString, ""), extension("texts", ".three.All", 201, 3, api.TString, ""), extension("e", ".three.All", 202, 0, api.TEnum, ".three.E")}
	three.Extends = []api.Field{extension("text", ".two.All", 200, 0, api.TString, ""), extension("texts", ".two.All", 201, 3, api.TString, ""), extension("e", ".two.All", 202, 0, api.TEnum, ".two.E")}
	mixed := func(other string) api.Message {
		return api.Message{Name: "Mixed", Fields: []api.Field{field("m", 1, 0, api.TMessage, "."+other+".All"), field("e", 2, 0, api.TEnum, "."+other+".E"), field("r", 3, 3, api.TEnum, "."+other+".E")}}
	}
	two.Messages = append(two.Messages, mixed("three"))
	three.Messages = append(three.Messages, mixed("two"))
	two.Messages[0].Extends = []api.Field{extension("within", ".two.One", 300, 0, api.TInt32, ""), extension("more", ".two.All", 203, 3, api.TFixed32, "")}
	return []api.File{two, three}
}

// made answers the pool of files that may be.
func made(t testing.TB, l ...api.File) *pool.Pool {
	t.Helper()
	p, full, err := pool.New(l)
	if err != api.OK {
		t.Fatalf("New: %q, %d", full, err)
	}
	return p
}

// msg answers a message of slots.
func msg(l ...api.Slot) api.Msg { return api.Msg{Slots: l} }

func slot(num int, l ...api.Val) api.Slot { return api.Slot{Num: num, Vals: l} }

// n, b and in answer worths: a number, bytes, a message.
func n(number uint64) api.Val { return api.Val{N: number} }

func b(text string) api.Val { return api.Val{B: []byte(text)} }

func in(l ...api.Slot) api.Val { return api.Val{M: msg(l...)} }

// ones answers a slot of numbers.
func ones(num int, l ...uint64) api.Slot {
	s := slot(num)
	for _, number := range l {
		s.Vals = append(s.Vals, n(number))
	}
	return s
}

func unknown(b string) api.Msg { return api.Msg{Unknown: []byte(b)} }

// copied answers a message in memory of its own.
func copied(m api.Msg) api.Msg {
	own := api.Msg{Unknown: slices.Clone(m.Unknown), Slots: slices.Clone(m.Slots)}
	for i := range own.Slots {
		own.Slots[i].Vals = slices.Clone(own.Slots[i].Vals)
		for k, v := range own.Slots[i].Vals {
			own.Slots[i].Vals[k] = api.Val{N: v.N, B: slices.Clone(v.B), M: copied(v.M)}
		}
	}
	return own
}

// hold holds Fit of a message against what it must be.
func hold(t testing.TB, p *pool.Pool, full string, m api.Msg, want bool) {
	t.Helper()
	before := copied(m)
	if got := value.Fit(p, full, m); got != want {
		t.Errorf("Fit(%s, %+v): %t", full, m, got)
	}
	if !reflect.DeepEqual(before, copied(m)) {
		t.Error("what was given is changed")
	}
}

// try is a message, and whether it fits.
type try struct {
	m    api.Msg
	want bool
}

func holdAll(t *testing.T, p *pool.Pool, full string, l []try) {
	t.Helper()
	for _, x := range l {
		hold(t, p, full, x.m, x.want)
	}
}

// nested answers so many messages within one another, by a field, the innermost of which has something.
func nested(deep, num int, innermost api.Msg) api.Msg {
	m := innermost
	for range deep - 1 {
		m = msg(slot(num, api.Val{M: m}))
	}
	return m
}

// endless are messages that stand within themselves.
func endless() []api.Msg {
	one := []api.Slot{slot(11, api.Val{})}
	one[0].Vals[0].M.Slots = one
	two := []api.Slot{slot(111, make([]api.Val, 2)...)}
	two[0].Vals[0].M.Slots, two[0].Vals[1].M.Slots = two, two
	last := []api.Slot{ones(1, 5), slot(11, api.Val{})}
	last[1].Vals[0].M.Slots = last
	vals := make([]api.Val, 3)
	vals[2].M.Slots = []api.Slot{{Num: 111, Vals: vals}}
	return []api.Msg{msg(one...), msg(two...), msg(last...), msg(slot(111, vals...))}
}
