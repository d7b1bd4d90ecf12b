package check_test

import (
	"bytes"
	"math"
	"math/rand/v2"
	"reflect"
	"slices"
	"strconv"
	"strings"
	"testing"

	"glossary/api"
	"glossary/check"
	"glossary/names"
	"glossary/pool"
)

// sampler makes files by chance that is the same each time.
type sampler struct {
	*rand.Rand
	l        []api.File
	count    int
	messages []typed // so far, and those that are being made
	enums    []typed
	ranges   map[string][]int64 // numbers of each message for extensions
}

// typed is a message or an enum, and the file that it is in.
type typed struct {
	full   string
	at     int
	values []string
}

// sample answers files that are taken.
func sample(seed uint64) []api.File {
	s := &sampler{Rand: rand.New(rand.NewPCG(seed, 16)), ranges: map[string][]int64{}}
	for i := range 1 + s.IntN(4) {
		f := api.File{Name: "f" + strconv.Itoa(i), Package: []string{"", "a", "a.b", "c"}[s.IntN(4)], Syntax: []string{"", "", "proto3"}[s.IntN(3)]}
		for k := range i {
			if s.IntN(2) == 0 {
				if s.IntN(2) == 0 {
					f.Public = append(f.Public, len(f.Deps))
				}
				f.Deps = append(f.Deps, "f"+strconv.Itoa(k))
			}
		}
		s.l = append(s.l, f)
		s.file(&s.l[i])
	}
	return s.l
}

// word answers a name that nothing has yet.
func (s *sampler) word(ahead string) string {
	s.count++
	return ahead + strconv.Itoa(s.count)
}

func (s *sampler) proto3() bool {
	return s.l[len(s.l)-1].Syntax != ""
}

func (s *sampler) file(f *api.File) {
	for range s.IntN(4) {
		f.Enums = append(f.Enums, s.enum(f.Package))
	}
	for range s.IntN(4) {
		f.Messages = append(f.Messages, s.message(f.Package, 0))
	}
	f.Extends = s.extends()
	for range s.IntN(2) {
		one := api.Service{Name: s.word("S")}
		for range s.IntN(3) {
			in, is := s.some(s.messages, false)
			out, _ := s.some(s.messages, false)
			if is {
				one.Methods = append(one.Methods, api.Method{Name: s.word("m"), In: in.full, Out: out.full, Client: s.IntN(2) == 0})
			}
		}
		f.Services = append(f.Services, one)
	}
}

func (s *sampler) enum(scope string) api.Enum {
	e := api.Enum{Name: s.word("E"), Options: s.bytes()}
	own := typed{full: "." + join(scope, e.Name), at: len(s.l) - 1}
	for i := range 1 + s.IntN(3) {
		v := api.Value{Name: s.word("V"), Number: int64(i)}
		own.values = append(own.values, v.Name)
		e.Values = append(e.Values, v)
	}
	s.enums = append(s.enums, own)
	return e
}

func (s *sampler) bytes() []byte {
	if s.IntN(4) > 0 {
		return nil
	}
	return []byte{0x08, byte(s.IntN(128))}
}

func (s *sampler) message(scope string, deep int) api.Message {
	m := api.Message{Name: s.word("M"), Options: s.bytes(), Unknown: s.bytes()}
	full := join(scope, m.Name)
	s.messages = append(s.messages, typed{full: "." + full, at: len(s.l) - 1})
	for range s.IntN(2) {
		m.Enums = append(m.Enums, s.enum(full))
	}
	for range s.IntN(3 - min(deep, 2)) {
		m.Nested = append(m.Nested, s.message(full, deep+1))
	}
	for range s.IntN(5) {
		f := s.field()
		f.Number = int64(len(m.Fields)*2 + 1)
		m.Fields = append(m.Fields, f)
	}
	s.maps(&m, full)
	s.oneofs(&m)
	for range s.IntN(3) {
		from := int64(100 + 10*len(m.Ranges))
		m.Ranges = append(m.Ranges, api.Range{From: from, To: from + 3})
	}
	if s.proto3() {
		m.Ranges = nil
	}
	for _, r := range m.Ranges {
		for n := r.From; n <= r.To; n++ {
			s.ranges["."+full] = append(s.ranges["."+full], n)
		}
	}
	for range s.IntN(3) {
		from := int64(1000 + 10*len(m.Reserved))
		m.Reserved = append(m.Reserved, api.Range{From: from, To: from + int64(s.IntN(5))})
		m.Words = append(m.Words, s.word("w"))
	}
	m.Extends = s.extends()
	return m
}

// some answers one that the file sees; alike: an enum that may be the type of its fields.
func (s *sampler) some(l []typed, alike bool) (typed, bool) {
	w := world{files: s.l}
	own := s.l[len(s.l)-1]
	var seen []typed
	for _, t := range l {
		if w.sees(own, s.l[t.at].Name) && !(alike && s.proto3() && s.l[t.at].Syntax == "") {
			seen = append(seen, t)
		}
	}
	if len(seen) == 0 {
		return typed{}, false
	}
	return seen[s.IntN(len(seen))], true
}

func (s *sampler) field() api.Field {
	f := api.Field{Name: s.word("f_"), Label: 1 + s.IntN(3), Options: s.bytes()}
	if s.proto3() && f.Label == 2 {
		f.Label = 1
	}
	f.Json = names.Json(f.Name)
	s.typed(&f)
	return f
}

// typed gives a field a type, and perhaps a default.
func (s *sampler) typed(f *api.Field) {
	plain := []int{1, 2, 3, 4, 5, 6, 7, 8, 9, 12, 13, 15, 16, 17, 18}
	f.Type = plain[s.IntN(len(plain))]
	var values []string
	switch s.IntN(3) {
	case 0:
		if of, is := s.some(s.messages, false); is {
			f.Type, f.TypeName = api.TMessage, of.full
		}
	case 1:
		if of, is := s.some(s.enums, true); is {
			f.Type, f.TypeName, values = api.TEnum, of.full, of.values
		}
	}
	if f.Label != 1 || s.proto3() || s.IntN(2) == 0 {
		return
	}
	for _, text := range append(values, "5", "true", "-1", "E1") {
		if modelDefault(f.Type, text) && (f.Type != api.TEnum || slices.Contains(values, text)) {
			f.Has, f.Default = true, text
			return
		}
	}
}

func (s *sampler) maps(m *api.Message, full string) {
	for range s.IntN(2) {
		name := s.word("map_")
		key := api.Field{Name: "key", Number: 1, Label: 1, Type: []int{3, 4, 5, 8, 9, 18}[s.IntN(6)], Json: "key"}
		value := api.Field{Name: "value", Number: 2, Label: 1, Json: "value"}
		s.typed(&value)
		value.Has, value.Default = false, ""
		entry := api.Message{Name: names.Entry(name), Fields: []api.Field{key, value}, Options: []byte{0x38, 1}}
		m.Nested = slices.Insert(m.Nested, s.IntN(len(m.Nested)+1), entry)
		m.Fields = append(m.Fields, api.Field{Name: name, Number: int64(len(m.Fields)*2 + 1), Label: 3, Type: 11, TypeName: "." + full + "." + entry.Name, Json: names.Json(name)})
	}
}

func (s *sampler) oneofs(m *api.Message) {
	for i := range m.Fields {
		f := &m.Fields[i]
		if f.Label != 1 || s.IntN(2) == 0 {
			continue
		}
		if len(m.Oneofs) == 0 || s.IntN(2) == 0 || i > 0 && m.Fields[i-1].Optional {
			m.Oneofs = append(m.Oneofs, api.Oneof{Name: s.word("o")})
			f.Optional = s.proto3() && s.IntN(2) == 0
		}
		f.Oneof = len(m.Oneofs)
	}
	// One that is Optional has its oneof for itself.
	for i := range m.Fields {
		for _, g := range m.Fields[i+1:] {
			if g.Oneof == m.Fields[i].Oneof {
				m.Fields[i].Optional = false
			}
		}
	}
}

func (s *sampler) extends() []api.Field {
	var l []api.Field
	for range s.IntN(4) {
		of, is := s.some(s.messages, false)
		if !is || len(s.ranges[of.full]) == 0 {
			continue
		}
		f := api.Field{Name: s.word("x"), Label: 1 + 2*s.IntN(2), Extendee: of.full, Number: s.ranges[of.full][0]}
		s.ranges[of.full] = s.ranges[of.full][1:]
		s.typed(&f)
		l = append(l, f)
	}
	return l
}

// spoil changes something in files, whatever it is.
func (s *sampler) spoil(l []api.File) {
	var texts, numbers, truths, lists []reflect.Value
	var down func(v reflect.Value)
	down = func(v reflect.Value) {
		switch v.Kind() {
		case reflect.Struct:
			for i := range v.NumField() {
				down(v.Field(i))
			}
		case reflect.Slice:
			lists = append(lists, v)
			for i := range v.Len() {
				down(v.Index(i))
			}
		case reflect.String:
			texts = append(texts, v)
		case reflect.Int, reflect.Int64:
			numbers = append(numbers, v)
		case reflect.Bool:
			truths = append(truths, v)
		}
	}
	for i := range l {
		down(reflect.ValueOf(&l[i]).Elem())
	}
	switch n := s.IntN(20); {
	case n < 8:
		s.spoilText(texts)
	case n < 14 && len(numbers) > 0:
		s.spoilNumber(numbers)
	case n < 16 && len(truths) > 0:
		v := truths[s.IntN(len(truths))]
		v.SetBool(!v.Bool())
	default:
		s.spoilList(lists[s.IntN(len(lists))])
	}
}

func (s *sampler) spoilText(texts []reflect.Value) {
	v := texts[s.IntN(len(texts))]
	switch s.IntN(6) {
	case 0:
		v.SetString([]string{"", "1", "option", "a.b", "f0", "proto3", "key", ".", "reserved", long(201)}[s.IntN(10)])
	case 1:
		if types := slices.DeleteFunc(texts, func(v reflect.Value) bool { return !strings.HasPrefix(v.String(), ".") }); len(types) > 0 {
			from := types[s.IntN(len(types))]
			types[s.IntN(len(types))].SetString(from.String())
		}
	default:
		v.SetString(texts[s.IntN(len(texts))].String())
	}
}

func (s *sampler) spoilNumber(numbers []reflect.Value) {
	v := numbers[s.IntN(len(numbers))]
	if s.IntN(3) == 0 {
		v.SetInt([]int64{-1, 0, 1, 2, 3, 11, 14, 10, 19000, 19999, 20000, api.MaxField, api.MaxField + 1, 1 << 31, math.MinInt64, 1001, 101}[s.IntN(17)])
		return
	}
	v.SetInt(numbers[s.IntN(len(numbers))].Int() + s.Int64N(3) - 1)
}

func (s *sampler) spoilList(v reflect.Value) {
	if v.Type() == reflect.TypeFor[[]byte]() {
		v.SetBytes([][]byte{{0x38, 1}, {0x38, 0}, nil, {0xff}}[s.IntN(4)])
		return
	}
	if v.Len() == 0 {
		v.Set(reflect.Append(v, reflect.Zero(v.Type().Elem())))
		return
	}
	at := s.IntN(v.Len())
	one := reflect.New(v.Type().Elem()).Elem()
	one.Set(v.Index(at))
	switch s.IntN(3) {
	case 0:
		v.Set(reflect.AppendSlice(v.Slice3(0, at, at), v.Slice(at+1, v.Len())))
	case 1:
		v.Set(reflect.Append(v, one))
	case 2:
		with := s.IntN(v.Len())
		v.Index(at).Set(v.Index(with))
		v.Index(with).Set(one)
	}
}

// holdModel holds Set against the model; it answers the rule that is told.
func holdModel(t *testing.T, seed uint64) int {
	t.Helper()
	s := &sampler{Rand: rand.New(rand.NewPCG(seed, 17))}
	l := sample(seed)
	for range s.IntN(3) {
		s.spoil(l)
		l = copied(l)
	}
	name, rule := modelSet(l)
	hold(t, l, name, rule)
	if t.Failed() {
		t.Fatalf("seed %d: %+v", seed, l)
	}
	s.holdAgain(t, l, name, rule)
	if t.Failed() {
		t.Fatalf("seed %d, again: %+v", seed, l)
	}
	return rule
}

// holdAgain is P16.2; with other Options and Unknown what isn't taken isn't taken for the same reason, too.
func (s *sampler) holdAgain(t *testing.T, l []api.File, name string, rule int) {
	t.Helper()
	if rule == 0 {
		for n := range l {
			hold(t, l[:n], "", 0)
		}
	}
	for i := range l {
		f := &l[i]
		f.Options, f.Unknown = s.other(), s.other()
		parts(f, func(_ string, part any) {
			v := reflect.ValueOf(part).Elem()
			options := s.other()
			if m, is := part.(*api.Message); is && pool.Entry(*m) != pool.Entry(api.Message{Options: options}) {
				options = m.Options
			}
			v.FieldByName("Options").SetBytes(options)
			v.FieldByName("Unknown").SetBytes(s.other())
		})
	}
	hold(t, l, name, rule)
}

// other answers bytes of which some say that a message is a map's entry.
func (s *sampler) other() []byte {
	return [][]byte{nil, {}, {0x38, 1}, {0x38, 0}, {0x38, 1, 0x38, 0}, {0x40, 1, 0x38, 7}, {0xff}, {0x3a, 1, 1}, bytes.Repeat([]byte{0x10, 1}, 20)}[s.IntN(9)]
}

// P16.1, P16.2 on files by chance: each rule is broken by some.
func TestModel(t *testing.T) {
	t.Parallel()
	told := map[int]int{}
	for seed := range uint64(4000) {
		told[holdModel(t, seed)]++
	}
	for rule := range 24 {
		if rule != 15 && told[rule] < 3 || rule == 0 && told[rule] < 1500 {
			t.Errorf("rule %d is told %d times", rule, told[rule])
		}
	}
}

// P16.1: files that are made to be taken are.
func TestSamples(t *testing.T) {
	t.Parallel()
	for seed := range uint64(1000) {
		l := sample(seed)
		hold(t, l, "", 0)
		if name, rule := modelSet(l); rule != 0 {
			t.Errorf("the model tells %q, %d", name, rule)
		}
		if t.Failed() {
			t.Fatalf("seed %d: %+v", seed, l)
		}
	}
}

// P1: whatever is given, it is told or taken.
func TestWhatever(t *testing.T) {
	t.Parallel()
	for seed := range uint64(500) {
		s := &sampler{Rand: rand.New(rand.NewPCG(seed, 18))}
		l := sample(seed)
		for range 40 {
			s.spoil(l)
		}
		l = copied(l)
		name, rule := modelSet(l)
		hold(t, l, name, rule)
		if t.Failed() {
			t.Fatalf("seed %d: %+v", seed, l)
		}
	}
}

func FuzzSeed(f *testing.F) {
	for seed := range uint64(10) {
		f.Add(seed)
	}
	f.Fuzz(func(t *testing.T, seed uint64) {
		holdModel(t, seed)
	})
}

func FuzzNames(f *testing.F) {
	f.Add("a", "M", "f", "f", ".a.M", "", int64(1), 1, 11, 0)
	f.Add("", "M", "key", "key", "", "5", int64(19000), 3, 5, 1)
	f.Fuzz(func(t *testing.T, pack, message, field, json, typed, worth string, number int64, label, kind, oneof int) {
		one := api.Field{Name: field, Json: json, TypeName: typed, Default: worth, Has: worth != "", Number: number, Label: label, Type: kind, Oneof: oneof}
		extension := one
		extension.Name, extension.Extendee, extension.Json, extension.Number = json, typed, "", number+1
		m := api.Message{Name: message, Fields: []api.Field{one}, Oneofs: []api.Oneof{{Name: "o"}}, Ranges: []api.Range{{From: number + 1, To: number + 1}}}
		l := []api.File{{Name: "x", Package: pack, Messages: []api.Message{m}, Extends: []api.Field{extension}}}
		name, rule := modelSet(l)
		got, told, err := check.Set(l)
		if got != name || told != rule || (err == api.OK) != (rule == 0) {
			t.Fatalf("%q, %d, %d, want %q, %d", got, told, err, name, rule)
		}
	})
}
