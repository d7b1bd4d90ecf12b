package shape_test

import (
	"math"
	"reflect"
	"testing"

	"glossary/api"
	"glossary/pool"
	"glossary/shape"
)

func field(name string, number int64, label, kind int, typed string) api.Field {
	return api.Field{Name: name, Number: number, Label: label, Type: kind, TypeName: typed}
}

func extension(name string, number int64, label int) api.Field {
	f := field(name, number, label, api.TInt32, "")
	f.Extendee = ".p.M"
	return f
}

// files answers one with messages, an entry of a map among them, and a proto3 one with extensions and an enum.
func files() []api.File {
	m := api.Message{Name: "M", Fields: []api.Field{field("c", 3, api.LabelRequired, api.TInt32, ""), field("a", 1, api.LabelRequired, api.TEnum, ".p.E"), field("b", 1, api.LabelRequired, api.TInt32, ""), field("n", -1, 1, api.TMessage, ".p.Entry"), field("key", 9, 1, api.TInt32, "")}}
	e := api.Message{Name: "Entry", Options: []byte{0x38, 1}, Fields: []api.Field{field("value", 1, 1, api.TInt32, ""), field("key", 5, 1, api.TInt32, ""), field("more", 6, 1, api.TInt32, "")}}
	two := api.Message{Name: "Two", Fields: []api.Field{field("a", 1, api.LabelRequired, api.TInt32, ""), field("b", 1, api.LabelRequired, api.TInt32, "")}}
	numbers := []api.Value{{Name: "A", Number: 1}, {Name: "B", Number: math.MinInt32}}
	return []api.File{{Name: "a", Package: "p", Messages: []api.Message{m, e, two}, Enums: []api.Enum{{Name: "E", Values: numbers}}},
		{Name: "b", Package: "q", Syntax: "proto3", Extends: []api.Field{extension("z", 2, api.LabelRequired), extension("y", 2, 1), extension("x", 3, api.LabelRequired), extension("key", 7, 1)}, Enums: []api.Enum{{Name: "E"}}}}
}

func made(t *testing.T) *pool.Pool {
	t.Helper()
	p, full, err := pool.New(files())
	if err != api.OK {
		t.Fatalf("%q, %d", full, err)
	}
	return p
}

// Fields and extensions stand by Number, of one Number fields first, then extensions by their names.
func TestOf(t *testing.T) {
	s := shape.Of(made(t), "p.M")
	var names []string
	for _, f := range s.Members {
		names = append(names, f.Full+" "+f.Name)
	}
	if want := []string{"p.M n", "p.M a", "p.M b", "q.y y", "q.z z", "p.M c", "q.x x", "q.key key", "p.M key"}; !reflect.DeepEqual(names, want) {
		t.Errorf("%q", names)
	}
	if !s.Is || s.Entry || s.Required != 2 { // a and c are the first of their numbers, z isn't
		t.Errorf("%+v", s)
	}
	if e := shape.Of(made(t), "p.Entry"); !e.Is || !e.Entry || e.Required != 0 || len(e.Members) != 3 {
		t.Errorf("%+v", e)
	}
	if two := shape.Of(made(t), "p.Two"); two.Required != 1 {
		t.Errorf("%+v", two)
	}
	for _, full := range []string{"", "p", "p.E", "M", ".p.M", "q.x"} {
		if s := shape.Of(made(t), full); s.Is || s.Entry || len(s.Members) > 0 || s.Required > 0 {
			t.Errorf("%q: %+v", full, s)
		}
	}
}

func TestFind(t *testing.T) {
	s := shape.Of(made(t), "p.M")
	for num, want := range map[int]string{-1: "n", 1: "a", 2: "y", 3: "c", 7: "key", 9: "key"} {
		if f, is := s.Find(num); f.Name != want || !is {
			t.Errorf("%d: %+v, %t", num, f, is)
		}
	}
	for _, num := range []int{0, 4, 8, 10, -2, math.MaxInt, math.MinInt} {
		if f, is := s.Find(num); !reflect.DeepEqual(f, shape.Member{}) || is {
			t.Errorf("%d: %+v, %t", num, f, is)
		}
	}
}

// Only what has a `.` ahead names a type.
func TestTyped(t *testing.T) {
	for name, want := range map[string]string{".a.b": "a.b", ".": "", "..a": ".a"} {
		if full, is := (shape.Member{Field: api.Field{TypeName: name}}).Typed(); full != want || !is {
			t.Errorf("%q: %q, %t", name, full, is)
		}
	}
	for _, name := range []string{"", "a", "a.b"} {
		if _, is := (shape.Member{Field: api.Field{TypeName: name}}).Typed(); is {
			t.Errorf("%q", name)
		}
	}
}

// What is known is asked once.
func TestKnown(t *testing.T) {
	asked := map[string]int{}
	k := shape.Ask(made(t), func(_ *pool.Pool, full string) bool {
		asked[full]++
		return full == "q.E"
	})
	typed := func(kind int, name string) shape.Member {
		return shape.Member{Field: api.Field{Type: kind, TypeName: name}}
	}
	for range 2 {
		if !k.Proto3("q.E") || k.Proto3("p.E") {
			t.Error("the wrong one is proto3")
		}
		if s := k.Shape("p.M"); !reflect.DeepEqual(s, shape.Of(made(t), "p.M")) {
			t.Errorf("%+v", s)
		}
		for name, has := range map[string][]uint64{".p.E": {1, 1<<64 - 1<<31}, ".q.E": {0, 1, 7, 1 << 40}, ".none": nil, "": nil, "p.E": nil} {
			for _, n := range []uint64{0, 1, 7, 1 << 40, 1<<64 - 1<<31, 1 << 31} {
				want := name == ".q.E"
				for _, own := range has {
					want = want || n == own
				}
				if got := k.Enum(typed(api.TEnum, name)).Has(n); got != want {
					t.Errorf("%q has %d: %t", name, n, got)
				}
			}
		}
		for _, x := range []struct {
			f    shape.Member
			want bool
		}{{typed(api.TMessage, ".p.Entry"), true}, {typed(api.TMessage, ".p.M"), false}, {typed(api.TMessage, "p.Entry"), false}, {typed(api.TEnum, ".p.Entry"), false}, {typed(api.TMessage, ".p.E"), false}} {
			if s, is := k.Entries(x.f); is != x.want || is && len(s.Members) != 3 {
				t.Errorf("%+v: %+v, %t", x.f, s, is)
			}
		}
	}
	if want := map[string]int{"q.E": 1, "p.E": 1, "none": 1}; !reflect.DeepEqual(asked, want) {
		t.Errorf("asked %v", asked)
	}
}

// keyed answers an entry that has worths as its key.
func keyed(l ...api.Val) api.Msg {
	return api.Msg{Slots: []api.Slot{{Num: 1, Vals: []api.Val{{N: 7}}}, {Num: 5, Vals: l}}}
}

// Keys are the same if all of their worths is alike; one that isn't there is 0, or nothing.
func TestKeys(t *testing.T) {
	in := func(l ...api.Slot) api.Val { return api.Val{M: api.Msg{Slots: l}} }
	slot := func(num int, l ...api.Val) api.Slot { return api.Slot{Num: num, Vals: l} }
	text := func(b string) api.Val { return api.Val{B: []byte(b)} }
	unlike := []api.Msg{
		keyed(api.Val{}), keyed(api.Val{N: 1}), keyed(api.Val{N: math.MaxUint64}), keyed(text("1")), keyed(text("a")), keyed(text("ab")), keyed(text("a b")), keyed(text("1 a")), keyed(api.Val{N: 1, B: []byte("a")}),
		keyed(api.Val{}, api.Val{}), keyed(api.Val{N: 1}, api.Val{}), keyed(api.Val{}, api.Val{N: 1}), keyed(text("a"), text("b")), keyed(text("a0 1 b")), keyed(api.Val{N: 10}), keyed(api.Val{N: 1}, api.Val{N: 0}, api.Val{}),
		keyed(in(slot(1))), keyed(in(slot(2))), keyed(in(slot(-1))), keyed(in(slot(1, api.Val{}))), keyed(in(slot(1, api.Val{}, api.Val{}))), keyed(in(slot(1, api.Val{})), api.Val{}), keyed(in(slot(1), slot(2))), keyed(in(slot(1, in(slot(2))))),
		keyed(in(slot(1, in(slot(2)), api.Val{}))), keyed(in(slot(1, in(slot(2))), slot(3))), keyed(in(slot(1, in(slot(2), slot(3))))),
		keyed(in(slot(1), slot(0, text("")))), keyed(in(slot(1, text("")), slot(0))), keyed(api.Val{M: api.Msg{Unknown: []byte("a")}}), keyed(api.Val{M: api.Msg{Unknown: []byte("b")}}), keyed(api.Val{B: []byte("a"), M: api.Msg{Unknown: []byte("a")}}),
		keyed(in(slot(4))), keyed(api.Val{M: api.Msg{Unknown: []byte("0 0 ")}}),
	}
	of := shape.Of(made(t), "p.Entry")
	keys := of.Keys()
	for i, m := range unlike {
		if old, is := keys.Put(m, i); is || old != 0 {
			t.Errorf("%+v has the key of %+v", m, unlike[old])
		}
	}
	for i, m := range unlike {
		if old, is := keys.Put(m, 100+i); !is || old != i {
			t.Errorf("%+v: %d, %t", m, old, is)
		}
	}
	if old, is := keys.Put(api.Msg{}, 7); !is || old != 100 {
		t.Errorf("an entry without a key: %d, %t", old, is)
	}
	if old, is := of.Keys().Put(api.Msg{}, 7); is || old != 0 {
		t.Errorf("keys are none's: %d, %t", old, is)
	}
	// Of what has no key all are alike; so is an extension of that name none.
	none := shape.Of(made(t), "q.E").Keys()
	none.Put(keyed(api.Val{N: 1}), 3)
	if old, is := none.Put(keyed(api.Val{N: 2}), 4); !is || old != 3 {
		t.Errorf("without a key: %d, %t", old, is)
	}
	own := shape.Of(made(t), "p.M").Keys()
	by := func(num int, n uint64) api.Msg { return api.Msg{Slots: []api.Slot{slot(num, api.Val{N: n})}} }
	own.Put(by(7, 1), 1)
	if _, is := own.Put(by(7, 2), 2); !is {
		t.Error("an extension is the key")
	}
	if _, is := own.Put(by(9, 2), 3); is {
		t.Error("the field isn't the key")
	}
}
