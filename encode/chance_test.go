package encode_test

import (
	"math"
	"math/rand/v2"
	"slices"
	"strconv"
	"testing"

	"glossary/api"
	"glossary/encode"
	"glossary/pool"
	"glossary/value"
)

// sampler makes files and messages by chance that is the same each time.
type sampler struct {
	*rand.Rand
	files    []api.File
	world    world
	messages []string // full names
	enums    []string
	odd      bool // whether fields may have numbers of each other
}

// sample answers one with files.
func sample(seed uint64) *sampler {
	s := &sampler{Rand: rand.New(rand.NewPCG(seed, 18))}
	s.odd = s.IntN(3) == 0
	for i := range 1 + s.IntN(3) {
		f := api.File{Name: "f" + strconv.Itoa(i), Package: []string{"", "a", "a.b", "c"}[s.IntN(4)], Syntax: []string{"", "proto3"}[s.IntN(2)]}
		f.Enums = append(f.Enums, enum("E"+strconv.Itoa(i), 0, 1, -1, math.MinInt32, 1<<20))
		s.enums = append(s.enums, join(f.Package, f.Enums[0].Name))
		for k := range 1 + s.IntN(3) {
			f.Messages = append(f.Messages, s.message(f.Package, "M"+strconv.Itoa(i)+strconv.Itoa(k), 0))
		}
		s.files = append(s.files, f)
	}
	// Only now all types are there.
	for i := range s.files {
		f := &s.files[i]
		for k := range f.Messages {
			s.fill(&f.Messages[k])
		}
		f.Extends = s.extends("x" + strconv.Itoa(i))
	}
	s.world = worldOf(s.files)
	return s
}

func (s *sampler) message(scope, name string, deep int) api.Message {
	m := api.Message{Name: name}
	for i := range s.IntN(3 - deep) {
		m.Nested = append(m.Nested, s.message(join(scope, name), "N"+strconv.Itoa(i), deep+1))
	}
	if s.IntN(6) == 0 {
		m.Options = []byte{0x38, 1}
	}
	s.messages = append(s.messages, join(scope, name))
	return m
}

// fill gives a message its fields, and all in it theirs.
func (s *sampler) fill(m *api.Message) {
	for i := range 1 + s.IntN(5) {
		name := "f" + strconv.Itoa(i)
		if len(m.Options) > 0 && i < 2 {
			name = []string{"key", "value"}[i]
		}
		m.Fields = append(m.Fields, s.field(name, int64(1+i*s.IntN(20))))
		if !s.odd {
			m.Fields[i].Number = int64(i*16 + 1)
		}
	}
	for i := range m.Nested {
		s.fill(&m.Nested[i])
	}
	if s.IntN(3) == 0 {
		m.Extends = s.extends("y")
	}
}

func (s *sampler) field(name string, number int64) api.Field {
	f := field(name, number, 1+2*s.IntN(2), types()[s.IntN(17)], "")
	if s.IntN(3) == 0 {
		f.Type = api.TMessage
	}
	if s.IntN(20) == 0 {
		f.Label = api.LabelRequired
	}
	if s.IntN(4) == 0 {
		f.Oneof = 1 + s.IntN(2)
	}
	if s.IntN(3) == 0 {
		f.Options = [][]byte{{0x10, 1}, {0x10, 0}, {0x10}, {0x18, 1}, {0x10, 1, 0x10, 0}, {0x10, 0, 0x10, 3}}[s.IntN(6)]
	}
	switch f.Type {
	case api.TMessage:
		f.TypeName = "." + s.messages[s.IntN(len(s.messages))]
	case api.TEnum:
		f.TypeName = "." + s.enums[s.IntN(len(s.enums))]
	}
	return f
}

func (s *sampler) extends(ahead string) []api.Field {
	var l []api.Field
	for i := range s.IntN(5) {
		f := s.field(ahead+strconv.Itoa(i), int64(100+s.IntN(5000)))
		if s.odd {
			f.Number = int64(1 + s.IntN(20))
		}
		f.Extendee, f.Json, f.Oneof = "."+s.messages[s.IntN(len(s.messages))], "", 0
		l = append(l, f)
	}
	return l
}

// told answers a message that fits, for the most part.
func (s *sampler) told(full string, deep int) api.Msg {
	var m api.Msg
	l := s.world.fields(full)
	slices.SortStableFunc(l, func(a, b owned) int { return int(a.Number - b.Number) })
	oneofs := map[int]bool{}
	for i, f := range l {
		if i > 0 && l[i-1].Number == f.Number || oneofs[f.Oneof] || deep > 6 {
			continue
		}
		if f.Label == api.LabelRequired || deep < 3 && s.IntN(2) == 0 {
			m.Slots = append(m.Slots, s.slot(f, deep))
			oneofs[f.Oneof] = f.Oneof != 0
		}
	}
	for s.IntN(4) == 0 {
		m.Unknown = append(m.Unknown, s.unknown()...)
	}
	return m
}

func (s *sampler) slot(f owned, deep int) api.Slot {
	own := slot(int(f.Number))
	count := 1
	if m, _ := s.world.find(f.TypeName[min(1, len(f.TypeName)):]).what.(api.Message); f.Label == api.LabelRepeated && len(m.Options) == 0 {
		count += s.IntN(3)
	}
	if count > 1 && s.IntN(30) == 0 && f.Type != api.TMessage {
		count = 200
	}
	for range count {
		own.Vals = append(own.Vals, s.worth(f, deep))
	}
	return own
}

// worth answers one that a field may have.
func (s *sampler) worth(f owned, deep int) api.Val {
	switch f.Type {
	case api.TMessage:
		return api.Val{M: s.told(f.TypeName[1:], deep+1)}
	case api.TString, api.TBytes:
		return b([]string{"", "a", "ab", "\xe2\x82\xac", string(make([]byte, 300))}[s.IntN(5)])
	case api.TEnum:
		return n([]uint64{0, 1, minus(1), minus(1 << 31), 1 << 20}[s.IntN(5)])
	}
	for {
		if v := n(edges()[s.IntN(len(edges()))]); value.Scalar(f.Type, v) {
			return v
		}
	}
}

// unknown answers a field that no field takes.
func (s *sampler) unknown() string {
	worth, kind := laid([]int{api.TInt64, api.TDouble, api.TFloat}[s.IntN(3)], n(edges()[s.IntN(len(edges()))]))
	if s.IntN(4) == 0 {
		return within(6000+s.IntN(20000), worth)
	}
	return tag(6000+s.IntN(20000), kind) + worth
}

// spoil changes something in a message, whatever it is.
func (s *sampler) spoil(m *api.Msg) {
	if len(m.Slots) == 0 || s.IntN(4) == 0 {
		m.Unknown = append(m.Unknown, byte(s.IntN(256)))
		return
	}
	one := &m.Slots[s.IntN(len(m.Slots))]
	switch s.IntN(6) {
	case 0:
		one.Num += s.IntN(3) - 1
	case 1:
		one.Vals = append(one.Vals, one.Vals...)
	case 2:
		one.Vals = one.Vals[1:]
	case 3:
		one.Vals[0].N = edges()[s.IntN(len(edges()))]
	case 4:
		one.Vals[0].B = []byte([]string{"", "a", "\xff"}[s.IntN(3)])
	case 5:
		s.spoil(&one.Vals[0].M)
	}
}

// holdModel holds Msg against the model; it answers how many messages were written, and how many refused.
func holdModel(t *testing.T, seed uint64) (written, refused int) {
	t.Helper()
	s := sample(seed)
	p, full, err := pool.New(s.files)
	if err != api.OK {
		t.Fatalf("seed %d: %q, %d", seed, full, err)
	}
	for _, full := range s.messages {
		for i := range 4 {
			m := s.told(full, 0)
			if i == 3 {
				s.spoil(&m)
			}
			got, err := encode.Msg(p, full, m)
			if !value.Fit(p, full, m) {
				if err != api.ErrType || len(got) > 0 {
					t.Fatalf("seed %d: Msg(%q, %+v): %x, %d", seed, full, m, got, err)
				}
				refused++
				continue
			}
			if want := s.world.bytes(full, m); err != api.OK || string(got) != want {
				t.Fatalf("seed %d: Msg(%q, %+v): %x, %d, want %x", seed, full, m, got, err, want)
			}
			written++
		}
	}
	return written, refused
}

// P18.1 on files and messages by chance.
func TestModel(t *testing.T) {
	written, refused := 0, 0
	for seed := range uint64(600) {
		a, b := holdModel(t, seed)
		written, refused = written+a, refused+b
	}
	if all := written + refused; written < all/2 || refused < all/10 {
		t.Errorf("%d messages were written, %d refused", written, refused)
	}
}

func FuzzSeed(f *testing.F) {
	for seed := range uint64(10) {
		f.Add(seed)
	}
	f.Fuzz(func(t *testing.T, seed uint64) {
		holdModel(t, seed)
	})
}

func FuzzScalar(f *testing.F) {
	f.Add(5, uint64(1), []byte("a"), []byte(""))
	f.Fuzz(func(t *testing.T, kind int, number uint64, text, rest []byte) {
		v := api.Val{N: number, B: text, M: api.Msg{Unknown: rest}}
		for _, k := range []int{kind, (kind%20 + 20) % 20} {
			want, wire := laid(k, v)
			if got, is := encode.Scalar(k, v); string(got) != want || is != wire {
				t.Fatalf("type %d, %+v: %x, %d, want %x, %d", k, v, got, is, want, wire)
			}
		}
	})
}
