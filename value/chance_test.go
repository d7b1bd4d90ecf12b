package value_test

import (
	"math"
	"math/rand/v2"
	"reflect"
	"slices"
	"strconv"
	"testing"

	"glossary/api"
	"glossary/pool"
	"glossary/value"
)

// sampler makes files and messages by chance that is the same each time.
type sampler struct {
	*rand.Rand
	files    []api.File
	world    world
	messages []string // full names
	enums    []string
	odd      bool // whether files are made that no check would take
}

// sample answers one with files.
func sample(seed uint64) *sampler {
	s := &sampler{Rand: rand.New(rand.NewPCG(seed, 17))}
	s.odd = s.IntN(3) == 0
	for i := range 1 + s.IntN(3) {
		f := api.File{Name: "f" + strconv.Itoa(i), Package: []string{"", "a", "a.b", "c"}[s.IntN(4)], Syntax: []string{"", "proto3"}[s.IntN(2)]}
		if s.odd && s.IntN(6) == 0 {
			f.Name = "f0"
		}
		for k := range s.IntN(3) {
			f.Enums = append(f.Enums, s.enum("E"+strconv.Itoa(i)+strconv.Itoa(k)))
			s.enums = append(s.enums, join(f.Package, f.Enums[k].Name))
		}
		for k := range 1 + s.IntN(3) {
			f.Messages = append(f.Messages, s.message(f.Package, "M"+strconv.Itoa(i)+strconv.Itoa(k), 0))
		}
		s.files = append(s.files, f)
	}
	// Only now all types are there.
	for i := range s.files {
		f := &s.files[i]
		for k := range f.Messages {
			s.fill(&f.Messages[k])
		}
		f.Extends = s.extends("x" + strconv.Itoa(i))
	}
	s.world = worldOf(s.files)
	return s
}

func join(scope, name string) string {
	if scope == "" {
		return name
	}
	return scope + "." + name
}

func (s *sampler) enum(name string) api.Enum {
	e := enum(name)
	for i := range s.IntN(4) {
		e.Values = append(e.Values, api.Value{Name: name + "_" + strconv.Itoa(i), Number: []int64{0, 1, 2, -1, math.MinInt32, math.MaxInt32, 7, 1 << 40}[s.IntN(8)]})
	}
	return e
}

func (s *sampler) message(scope, name string, deep int) api.Message {
	m := api.Message{Name: name}
	full := join(scope, name)
	for i := range s.IntN(3 - deep) {
		m.Nested = append(m.Nested, s.message(full, "N"+strconv.Itoa(i), deep+1))
	}
	if s.IntN(2) == 0 {
		m.Enums = append(m.Enums, s.enum("F"+strconv.Itoa(deep)))
		s.enums = append(s.enums, join(full, m.Enums[0].Name))
	}
	if s.IntN(4) == 0 {
		m.Options = []byte{0x38, 1}
	}
	s.messages = append(s.messages, full)
	return m
}

// fill gives a message its fields, and all in it theirs.
func (s *sampler) fill(m *api.Message) {
	for i := range s.IntN(5) {
		name := []string{"key", "value"}[i%2]
		if i > 1 || len(m.Options) == 0 && s.IntN(4) > 0 {
			name = "f" + strconv.Itoa(i)
		}
		m.Fields = append(m.Fields, s.field(name, int64(i+1)))
	}
	for i := range m.Nested {
		s.fill(&m.Nested[i])
	}
	if s.IntN(3) == 0 {
		m.Extends = s.extends("y")
	}
}

func (s *sampler) field(name string, number int64) api.Field {
	f := field(name, number, 1+2*s.IntN(2), types()[s.IntN(17)], "")
	if s.IntN(3) == 0 {
		f.Type = []int{api.TMessage, api.TEnum, api.TString}[s.IntN(3)]
	}
	if s.IntN(12) == 0 {
		f.Label = api.LabelRequired
	}
	if s.IntN(3) == 0 {
		f.Oneof = 1 + s.IntN(2)
	}
	if s.IntN(4) == 0 {
		f.Options = [][]byte{{0x10, 1}, {0x10, 0}, {0x10}, {0x18, 1}, {0x10, 1, 0x10, 0}, {0x12, 0}}[s.IntN(6)]
	}
	switch {
	case f.Type == api.TMessage:
		f.TypeName = "." + s.messages[s.IntN(len(s.messages))]
	case f.Type == api.TEnum && len(s.enums) > 0:
		f.TypeName = "." + s.enums[s.IntN(len(s.enums))]
	}
	if s.odd {
		s.twist(&f)
	}
	return f
}

// twist makes a field one that no check would take, now and then.
func (s *sampler) twist(f *api.Field) {
	switch s.IntN(12) {
	case 0:
		f.Number = int64(s.IntN(5))
	case 1:
		f.Label = s.IntN(6) - 1
	case 2:
		f.Type = s.IntN(21) - 1
	case 3:
		f.TypeName = []string{"", ".", "none", ".none", s.messages[0], "." + s.messages[0]}[s.IntN(6)]
	case 4:
		f.Oneof = s.IntN(6) - 2
	case 5:
		f.Number = []int64{-1, 0, math.MaxInt64, math.MinInt64, 1 << 32, api.MaxField}[s.IntN(6)]
	}
}

func (s *sampler) extends(ahead string) []api.Field {
	var l []api.Field
	for i := range s.IntN(4) {
		f := s.field(ahead+strconv.Itoa(i), int64(100+s.IntN(1000)))
		f.Extendee, f.Json = "."+s.messages[s.IntN(len(s.messages))], ""
		if s.IntN(4) > 0 {
			f.Oneof = 0
		}
		l = append(l, f)
	}
	return l
}

// told answers a message that fits, if there is one that isn't too deep.
func (s *sampler) told(full string, deep int) api.Msg {
	var m api.Msg
	l, _ := s.world.fields(full)
	oneofs := map[int]bool{}
	for i, f := range l {
		if i > 0 && l[i-1].Number == f.Number || oneofs[f.Oneof] && s.IntN(20) > 0 {
			continue
		}
		if f.Label != api.LabelRequired && (deep > 4 || s.IntN(2) == 0) || deep > 12 {
			continue
		}
		if s := s.slot(f, deep); len(s.Vals) > 0 {
			m.Slots = append(m.Slots, s)
			oneofs[f.Oneof] = f.Oneof != 0
		}
	}
	for s.IntN(4) == 0 {
		m.Unknown = append(m.Unknown, s.unknown(l)...)
	}
	return m
}

func (s *sampler) slot(f owned, deep int) api.Slot {
	own := api.Slot{Num: int(f.Number)}
	count := 1
	if f.Label == api.LabelRepeated {
		count += s.IntN(3)
	}
	for range count {
		v := s.worth(f, deep)
		if with := append(slices.Clone(own.Vals), v); s.IntN(50) == 0 || s.world.wrongSlot(f, api.Slot{Num: own.Num, Vals: with}) == "" {
			own.Vals = with
		}
	}
	return own
}

// worth answers one that a field may have, for the most part.
func (s *sampler) worth(f owned, deep int) api.Val {
	full, what := s.world.typed(f)
	switch f.Type {
	case api.TMessage:
		return api.Val{M: s.told(full, deep+1)}
	case api.TEnum:
		if e, is := what.(api.Enum); is && len(e.Values) > 0 && s.IntN(4) > 0 {
			return n(uint64(e.Values[s.IntN(len(e.Values))].Number))
		}
	case api.TString, api.TBytes:
		return b([]string{"", "a", "ab", "\xff", "\xe2\x82\xac", "\x80a", "\xed\xa0\x80"}[s.IntN(7)])
	case api.TBool:
		return n(s.Uint64N(2))
	}
	if s.IntN(2) == 0 {
		return n(s.Uint64N(3))
	}
	return n(edges()[s.IntN(len(edges()))])
}

// unknown answers a field that may be among those that aren't known.
func (s *sampler) unknown(l []owned) string {
	kind := []int{api.WireVarint, api.WireI64, api.WireI32, api.WireLen}[s.IntN(4)]
	number := edges()[s.IntN(len(edges()))]
	if len(l) == 0 || s.IntN(3) == 0 {
		return put(1+s.IntN(2000), kind, number)
	}
	f := l[s.IntN(len(l))]
	if f.Type == api.TEnum && s.IntN(3) > 0 {
		kind = api.WireVarint
	}
	return put(int(min(max(f.Number, 1), api.MaxField)), kind, number)
}

// spoil changes something in a message, whatever it is.
func (s *sampler) spoil(m *api.Msg) {
	var slots []*api.Slot
	var vals []*api.Val
	all := []*api.Msg{m}
	for i := 0; i < len(all); i++ {
		for k := range all[i].Slots {
			one := &all[i].Slots[k]
			slots = append(slots, one)
			for j := range one.Vals {
				vals = append(vals, &one.Vals[j])
				all = append(all, &one.Vals[j].M)
			}
		}
	}
	some := all[s.IntN(len(all))]
	if len(all) == 1 || s.IntN(2) == 0 || len(vals) == 0 {
		s.spoilMessage(some)
		return
	}
	slot, val := slots[s.IntN(len(slots))], vals[s.IntN(len(vals))]
	switch s.IntN(10) {
	case 0:
		slot.Num += s.IntN(3) - 1
	case 1:
		slot.Vals = append(slot.Vals, slot.Vals...)
	case 2:
		slot.Vals = slot.Vals[min(1, len(slot.Vals)):]
	case 3, 4, 5:
		val.N = edges()[s.IntN(len(edges()))]
	case 6, 7:
		val.B = []byte([]string{"", "a", "\xff"}[s.IntN(3)])
	case 8:
		val.M = copied(*all[s.IntN(len(all))]) // else it might stand within itself
	case 9:
		*val = copied(msg(api.Slot{Vals: []api.Val{*vals[s.IntN(len(vals))]}})).Slots[0].Vals[0]
	}
}

func (s *sampler) spoilMessage(m *api.Msg) {
	switch at := len(m.Slots) - 1; s.IntN(6) {
	case 0:
		m.Slots = append(m.Slots, api.Slot{Num: s.IntN(8), Vals: []api.Val{n(uint64(s.IntN(3)))}})
	case 1:
		if at >= 0 {
			m.Slots = slices.Delete(m.Slots, at, at+1)
		}
	case 2:
		if at > 0 {
			m.Slots[at], m.Slots[at-1] = m.Slots[at-1], m.Slots[at]
		}
	case 3:
		m.Unknown = append(m.Unknown, byte(s.IntN(256)))
	case 4:
		m.Unknown = append(m.Unknown, put(1+s.IntN(6), []int{0, 1, 2, 5}[s.IntN(4)], edges()[s.IntN(len(edges()))])...)
	case 5:
		if len(m.Unknown) > 0 {
			m.Unknown[s.IntN(len(m.Unknown))] ^= 1 << s.IntN(8)
		}
	}
}

// holdFields holds Fields, Proto3 and Packed against the model.
func holdFields(t *testing.T, s *sampler, p *pool.Pool, full string) {
	t.Helper()
	want, _ := s.world.fields(full)
	got := value.Fields(p, full)
	if len(got) != len(want) {
		t.Fatalf("Fields(%q): %+v, want %+v", full, got, want)
	}
	for i, f := range got {
		if !reflect.DeepEqual(f, want[i].Field) {
			t.Fatalf("Fields(%q): %+v, want %+v", full, got, want)
		}
		if value.Packed(p, want[i].owner, f) != s.world.packed(want[i].owner, f) {
			t.Fatalf("Packed(%q, %+v)", want[i].owner, f)
		}
	}
	if value.Proto3(p, full) != s.world.proto3(full) {
		t.Fatalf("Proto3(%q)", full)
	}
}

// holdModel holds all calls against the model; it answers how many messages fit and how many don't.
func holdModel(t *testing.T, seed uint64) (fit, not int) {
	t.Helper()
	s := sample(seed)
	p, full, err := pool.New(s.files)
	if err != api.OK {
		t.Fatalf("seed %d: %q, %d", seed, full, err)
	}
	for _, full := range append(s.enums, "none", "") {
		holdFields(t, s, p, full)
	}
	for _, full := range s.messages {
		holdFields(t, s, p, full)
		m := s.told(full, 0)
		for range 4 {
			before := copied(m)
			why := s.world.wrong(full, m)
			if value.Fit(p, full, m) != (why == "") {
				t.Fatalf("seed %d: Fit(%q, %+v): %t; %s", seed, full, m, why != "", why)
			}
			if why == "" {
				fit++
			} else {
				not++
			}
			if value.Deep(m) != depth(m) || !value.Same(m, before) {
				t.Fatalf("seed %d: Deep or Same of %+v", seed, m)
			}
			s.spoil(&m)
			if value.Same(m, before) != reflect.DeepEqual(even(m), even(before)) {
				t.Fatalf("seed %d: Same(%+v, %+v)", seed, m, before)
			}
		}
	}
	return fit, not
}

// P17.1 to P17.6 on files and messages by chance.
func TestModel(t *testing.T) {
	fit, not := 0, 0
	for seed := range uint64(2000) {
		a, b := holdModel(t, seed)
		fit, not = fit+a, not+b
	}
	if all := fit + not; fit < all/5 || not < all/5 {
		t.Errorf("%d messages fit, %d don't", fit, not)
	}
}

// The model meets, by chance, each reason why a message does not fit, but for those that other tests try one by one: too deep a message, and the name of none.
func TestReasons(t *testing.T) {
	met := map[string]int{}
	for seed := range uint64(1000) {
		s := sample(seed)
		for _, full := range s.messages {
			m := s.told(full, 0)
			for range 4 {
				met[s.world.wrong(full, m)]++
				s.spoil(&m)
			}
		}
	}
	for _, why := range []string{"", "no field", "not rising", "required", "oneof", "count", "key", "no type", "worth", "text", "enum", "bytes", "known"} {
		if met[why] < 10 {
			t.Errorf("%q is met %d times", why, met[why])
		}
	}
}

func FuzzSeed(f *testing.F) {
	for seed := range uint64(10) {
		f.Add(seed)
	}
	f.Fuzz(func(t *testing.T, seed uint64) {
		holdModel(t, seed)
	})
}

func FuzzScalar(f *testing.F) {
	f.Add(5, uint64(1), []byte("a"), []byte(""))
	f.Fuzz(func(t *testing.T, kind int, number uint64, text, unknown []byte) {
		v := api.Val{N: number, B: text, M: api.Msg{Unknown: unknown}}
		for _, k := range []int{kind, (kind%20 + 20) % 20} {
			if got, want := value.Scalar(k, v), plain(k, v); got != want {
				t.Fatalf("type %d, %+v: %t", k, v, got)
			}
		}
	})
}

func FuzzUnknown(f *testing.F) {
	f.Add([]byte("\x08\x01"), 5, 1)
	f.Fuzz(func(t *testing.T, bytes []byte, kind, label int) {
		kind, label = (kind%20+20)%20, (label%4+4)%4
		l := []api.File{{Name: "a", Messages: []api.Message{{Name: "M", Fields: []api.Field{{Name: "f", Number: 1, Label: label, Type: kind, TypeName: ".E"}}}}, Enums: []api.Enum{enum("E", 0, 1)}}}
		m := api.Msg{Unknown: bytes}
		if got, why := value.Fit(made(t, l...), "M", m), worldOf(l).wrong("M", m); got != (why == "") {
			t.Fatalf("%x, type %d, label %d: %t; %s", bytes, kind, label, got, why)
		}
	})
}
