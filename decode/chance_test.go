package decode_test

import (
	"encoding/binary"
	"math"
	"math/rand/v2"
	"slices"
	"strconv"
	"testing"

	"glossary/api"
	"glossary/decode"
	"glossary/pool"
	"glossary/value"
)

// sampler makes files and bytes by chance that is the same each time.
type sampler struct {
	*rand.Rand
	files    []api.File
	world    world
	messages []string // full names
	enums    []string
	odd      bool // whether files are made that no check would take
	typeless bool // whether there are fields of types that there aren't
}

// sample answers one with files.
func sample(seed uint64) *sampler {
	s := &sampler{Rand: rand.New(rand.NewPCG(seed, 19))}
	s.odd = s.IntN(3) == 0
	for i := range 1 + s.IntN(3) {
		f := api.File{Name: "f" + strconv.Itoa(i), Package: []string{"", "a", "a.b", "c"}[s.IntN(4)], Syntax: []string{"", "proto3"}[s.IntN(2)]}
		for k := range 1 + s.IntN(2) {
			f.Enums = append(f.Enums, s.enum("E"+strconv.Itoa(i)+strconv.Itoa(k)))
			s.enums = append(s.enums, join(f.Package, f.Enums[k].Name))
		}
		for k := range 1 + s.IntN(3) {
			f.Messages = append(f.Messages, s.message(f.Package, "M"+strconv.Itoa(i)+strconv.Itoa(k), 0))
		}
		s.files = append(s.files, f)
	}
	// Only now all types are there.
	for i := range s.files {
		f := &s.files[i]
		for k := range f.Messages {
			s.fill(&f.Messages[k])
		}
		f.Extends = s.extends("x" + strconv.Itoa(i))
	}
	s.world = worldOf(s.files)
	return s
}

func (s *sampler) enum(name string) api.Enum {
	e := enum(name)
	for i := range s.IntN(4) {
		e.Values = append(e.Values, api.Value{Name: name + "_" + strconv.Itoa(i), Number: []int64{0, 1, 2, -1, math.MinInt32, math.MaxInt32, 5, 1 << 40}[s.IntN(8)]})
	}
	return e
}

func (s *sampler) message(scope, name string, deep int) api.Message {
	m := api.Message{Name: name}
	for i := range s.IntN(3 - deep) {
		m.Nested = append(m.Nested, s.message(join(scope, name), "N"+strconv.Itoa(i), deep+1))
	}
	if s.IntN(3) == 0 {
		m.Options = []byte{0x38, 1}
	}
	s.messages = append(s.messages, join(scope, name))
	return m
}

// fill gives a message its fields, and all in it theirs.
func (s *sampler) fill(m *api.Message) {
	for i := range s.IntN(6) {
		name := []string{"key", "value"}[i%2]
		if i > 1 || len(m.Options) == 0 && s.IntN(4) > 0 {
			name = "f" + strconv.Itoa(i)
		}
		m.Fields = append(m.Fields, s.field(name, int64(i+1)))
	}
	for i := range m.Nested {
		s.fill(&m.Nested[i])
	}
	if s.IntN(3) == 0 {
		m.Extends = s.extends("y")
	}
}

func (s *sampler) field(name string, number int64) api.Field {
	f := field(name, number, 1+2*s.IntN(2), types()[s.IntN(17)], "")
	if s.IntN(3) == 0 {
		f.Type = []int{api.TMessage, api.TMessage, api.TEnum, api.TString}[s.IntN(4)]
	}
	if s.IntN(16) == 0 {
		f.Label = api.LabelRequired
	}
	if s.IntN(3) == 0 {
		f.Oneof = 1 + s.IntN(2)
	}
	switch {
	case f.Type == api.TMessage:
		f.TypeName = "." + s.messages[s.IntN(len(s.messages))]
	case f.Type == api.TEnum:
		f.TypeName = "." + s.enums[s.IntN(len(s.enums))]
	}
	if s.odd {
		s.twist(&f)
	}
	return f
}

// twist makes a field one that no check would take, now and then.
func (s *sampler) twist(f *api.Field) {
	switch s.IntN(12) {
	case 0:
		f.Number = int64(s.IntN(5))
	case 1:
		f.Label = s.IntN(6) - 1
	case 2:
		f.Type = s.IntN(21) - 1
		s.typeless = s.typeless || !slices.Contains(types(), f.Type)
	case 3:
		f.TypeName = []string{"", ".", "none", ".none", s.messages[0], "." + s.messages[0]}[s.IntN(6)]
	case 4:
		f.Oneof = s.IntN(6) - 2
	case 5:
		f.Number = []int64{-1, 0, math.MaxInt64, math.MinInt64, 1 << 32, 1<<32 + 1, api.MaxField}[s.IntN(7)]
	}
}

func (s *sampler) extends(ahead string) []api.Field {
	var l []api.Field
	for i := range s.IntN(4) {
		f := s.field(ahead+strconv.Itoa(i), int64(100+s.IntN(1000)))
		f.Extendee, f.Json = "."+s.messages[s.IntN(len(s.messages))], ""
		if s.IntN(4) > 0 {
			f.Oneof = 0
		}
		l = append(l, f)
	}
	return l
}

// bytes answers those of a message, for the most part.
func (s *sampler) bytes(full string, deep int) string {
	l := s.world.fields(full)
	b := ""
	if deep < 5 {
		for s.IntN(5) > 0 && len(b) < 2000 {
			b += s.one(l, deep)
		}
	}
	for _, f := range l {
		if f.Label == api.LabelRequired && deep < 12 && s.IntN(40) > 0 {
			b += s.known(f, deep)
		}
	}
	if s.IntN(150) == 0 {
		b += string([]byte{byte(s.IntN(256))})
	}
	return b
}

// one answers a field on the wire.
func (s *sampler) one(l []owned, deep int) string {
	if len(l) > 0 && s.IntN(8) > 0 {
		return s.known(l[s.IntN(len(l))], deep)
	}
	num := 1 + s.IntN(1200)
	if len(l) > 0 && s.IntN(2) == 0 {
		num = wireNumber(l[s.IntN(len(l))])
	}
	n := s.number()
	return []string{uv(num, n), i64(num, n), i32(num, uint32(n)), in(num, s.text())}[s.IntN(4)]
}

// wireNumber answers the number of a field, or the nearest that may stand on the wire.
func wireNumber(f owned) int {
	return int(min(max(f.Number, 1), api.MaxField))
}

func (s *sampler) number() uint64 {
	if s.IntN(2) == 0 {
		return s.Uint64N(3)
	}
	return edges()[s.IntN(len(edges()))]
}

func (s *sampler) text() string {
	if s.IntN(20) == 0 {
		return []string{"\xff", "\x80a", "\xed\xa0\x80", "\xc0\x80"}[s.IntN(4)]
	}
	return []string{"", "a", "ab", "\xe2\x82\xac", "\x08\x01"}[s.IntN(5)]
}

// known answers a field on the wire that a field takes, for the most part.
func (s *sampler) known(f owned, deep int) string {
	num := wireNumber(f)
	kind, _ := row(f.Type)
	switch {
	case f.Type == api.TMessage:
		return in(num, s.bytes(s.world.typed(f).full, deep+1))
	case kind < 0:
		return in(num, s.text())
	case f.Label == api.LabelRepeated && s.IntN(2) == 0 || s.IntN(30) == 0:
		list := ""
		for range s.IntN(5) {
			list += s.bare(kind)
		}
		if list != "" && s.IntN(60) == 0 {
			list = list[:len(list)-1]
		}
		return in(num, list)
	}
	return tag(num, kind) + s.bare(kind)
}

// bare answers a number's bytes.
func (s *sampler) bare(kind int) string {
	n := s.number()
	switch kind {
	case api.WireI64:
		return string(binary.LittleEndian.AppendUint64(nil, n))
	case api.WireI32:
		return string(binary.LittleEndian.AppendUint32(nil, uint32(n)))
	}
	b := binary.AppendUvarint(nil, n)
	if len(b) < 9 && s.IntN(6) == 0 {
		b[len(b)-1] |= 0x80
		b = append(b, 0) // in more bytes than it needs
	}
	return string(b)
}

// spoil changes something in bytes, whatever it is.
func (s *sampler) spoil(b string) string {
	if b == "" {
		return string([]byte{byte(s.IntN(256))})
	}
	l := []byte(b)
	at := s.IntN(len(l))
	switch s.IntN(4) {
	case 0:
		l[at] ^= 1 << s.IntN(8)
	case 1:
		l = l[:at]
	case 2:
		l = slices.Delete(l, at, at+1)
	case 3:
		l = slices.Insert(l, at, byte(s.IntN(256)))
	}
	return string(l)
}

// holdModel holds Msg against the model, and counts what it answers.
func holdModel(t *testing.T, seed uint64, met map[api.Errno]int) {
	t.Helper()
	s := sample(seed)
	p, full, err := pool.New(s.files)
	if err != api.OK {
		t.Fatalf("seed %d: %q, %d", seed, full, err)
	}
	for _, full := range s.messages {
		for i := range 6 {
			b := s.bytes(full, 0)
			if i == 5 {
				b = s.spoil(b)
			}
			got, err := decode.Msg(p, full, []byte(b))
			want, wrong := s.world.decode(full, b)
			if said(got) != said(want) || err != wrong {
				t.Fatalf("seed %d: Msg(%q, %x): %s, %d, want %s, %d", seed, full, b, said(got), err, said(want), wrong)
			}
			met[err]++
			switch {
			case err != api.OK:
			case !s.typeless:
				back(t, p, full, got)
			case value.Fit(p, full, got):
				back(t, p, full, got)
			}
		}
	}
	if t.Failed() {
		t.Fatalf("seed %d", seed)
	}
}

const seeds = 300

// P19.1, P19.3 on files and bytes by chance.
func TestModel(t *testing.T) {
	met := map[api.Errno]int{}
	for seed := range uint64(seeds) {
		holdModel(t, seed, met)
	}
	for err, least := range map[api.Errno]int{api.OK: 5000, api.ErrRequired: 200, api.ErrText: 200, api.ErrWorth: 200, api.ErrNone: 50, api.ErrVarint: 200, api.ErrTag: 200, api.ErrWire: 200} {
		if met[err] < least {
			t.Errorf("%d is answered %d times", err, met[err])
		}
	}
}

// P19.1, P19.3 on bytes by chance that stand as deep as they may, or deeper.
func TestDeepModel(t *testing.T) {
	s := &sampler{Rand: rand.New(rand.NewPCG(7, 19)), files: base(), world: worldOf(base())}
	p := made(t, s.files...)
	met := map[api.Errno]int{}
	for range 400 {
		b := s.bytes("two.One", 2+s.IntN(3))
		for range 61 + s.IntN(4) {
			b = in(3, b)
		}
		got, err := decode.Msg(p, "two.One", []byte(b))
		want, wrong := s.world.decode("two.One", b)
		if said(got) != said(want) || err != wrong {
			t.Fatalf("Msg(%x): %s, %d, want %s, %d", b, said(got), err, said(want), wrong)
		}
		met[err]++
		if err == api.OK {
			back(t, p, "two.One", got)
		}
	}
	for _, err := range []api.Errno{api.OK, api.ErrLong} {
		if met[err] < 100 {
			t.Errorf("%d is answered %d times", err, met[err])
		}
	}
}

// P19.2 on numbers by chance.
func TestScalarModel(t *testing.T) {
	for _, kind := range append(types(), 0, 10, 19, -1) {
		for _, n := range edges() {
			for _, near := range []uint64{n - 1, n, n + 1, n << 1, n<<1 + 1} {
				holdScalar(t, kind, near)
			}
		}
	}
}

func holdScalar(t *testing.T, kind int, n uint64) {
	t.Helper()
	own, _ := row(kind)
	for _, wire := range []int{0, 1, 2, 5} {
		want := api.Val{}
		if wire == own {
			want = worth(kind, n)
		}
		got, is := decode.Scalar(kind, api.Raw{Num: 1, Kind: wire, N: n})
		if got.N != want.N || is != (wire == own) || len(got.B)+len(got.M.Slots)+len(got.M.Unknown) > 0 {
			t.Fatalf("type %d, kind %d, %d: %+v, %t", kind, wire, n, got, is)
		}
	}
}

func FuzzSeed(f *testing.F) {
	for seed := range uint64(10) {
		f.Add(seed)
	}
	f.Fuzz(func(t *testing.T, seed uint64) {
		holdModel(t, seed, map[api.Errno]int{})
	})
}

func FuzzBytes(f *testing.F) {
	f.Add("\x18\x05\x5a\x02\x18\x06")
	f.Add(uv(14, 6) + in(114, "\x05\x06") + in(11, uv(99, 1)) + in(11, in(9, "a")))
	l := base()
	p, _, _ := pool.New(l)
	f.Fuzz(func(t *testing.T, b string) {
		w := worldOf(l)
		for _, full := range []string{"two.All", "three.All", "two.Need", "three.One", "two.Maps", "three.Maps", "two.Mixed"} {
			got, err := decode.Msg(p, full, []byte(b))
			want, wrong := w.decode(full, b)
			if said(got) != said(want) || err != wrong {
				t.Fatalf("Msg(%q, %x): %s, %d, want %s, %d", full, b, said(got), err, said(want), wrong)
			}
			if err == api.OK {
				back(t, p, full, got)
			}
		}
	})
}

func FuzzScalar(f *testing.F) {
	f.Add(5, uint64(1))
	f.Fuzz(func(t *testing.T, kind int, n uint64) {
		holdScalar(t, (kind%20+20)%20, n)
	})
}
