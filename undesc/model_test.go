package undesc_test

import (
	"encoding/binary"
	"math"
	"math/rand/v2"
	"reflect"
	"strconv"
	"strings"
	"testing"

	"glossary/api"
	"glossary/desc"
	"glossary/undesc"
)

// table is chapter 11's, word for word but for what it says beside the names: - is one less, + one more, # has bounds.
const table = `
File: 1 Name, 2 Package, 3 Deps, 4 Messages, 5 Enums, 6 Services, 7 Extends, 8 Options, 10 Public#, 12 Syntax
Message: 1 Name, 2 Fields, 3 Nested, 4 Enums, 5 Ranges, 6 Extends, 7 Options, 8 Oneofs, 9 Reserved, 10 Words
Field: 1 Name, 2 Extendee, 3 Number, 4 Label#, 5 Type#, 6 TypeName, 7 Default, 8 Options, 9 Oneof-#, 10 Json, 17 Optional
Range: 1 From, 2 To+
Oneof: 1 Name, 2 Options
Enum: 1 Name, 2 Values, 3 Options
Value: 1 Name, 2 Number, 3 Options
Service: 1 Name, 2 Methods, 3 Options
Method: 1 Name, 2 In, 3 Out, 4 Options, 5 Client, 6 Server
`

// entry is a field of a type, as the table says it.
type entry struct {
	num    int
	name   string
	bounds bool
	add    int64 // how much more the wire has
}

// entries answers what the table says, by type.
func entries() map[string][]entry {
	all := map[string][]entry{}
	for line := range strings.Lines(strings.TrimSpace(table)) {
		of, list, _ := strings.Cut(strings.TrimSpace(line), ": ")
		for word := range strings.SplitSeq(list, ", ") {
			num, name, _ := strings.Cut(word, " ")
			e := entry{name: strings.TrimRight(name, "+-#"), bounds: strings.Contains(name, "#")}
			e.num, _ = strconv.Atoi(num)
			e.add = int64(strings.Count(name, "+") - strings.Count(name, "-"))
			all[of] = append(all[of], e)
		}
	}
	return all
}

// modelRead answers the fields that bytes are, read without the program's help.
func modelRead(b []byte) ([]api.Raw, api.Errno) {
	var l []api.Raw
	for len(b) > 0 {
		tag, size := binary.Uvarint(b)
		if size <= 0 {
			return nil, api.ErrVarint
		}
		b = b[size:]
		f := api.Raw{Num: int(tag >> 3), Kind: int(tag & 7)}
		if tag >= 1<<32 || f.Num == 0 || !strings.ContainsRune("0125", rune('0'+f.Kind)) {
			return nil, api.ErrTag
		}
		fixed := map[int]int{api.WireI64: 8, api.WireI32: 4}[f.Kind]
		if len(b) < fixed {
			return nil, api.ErrWire
		}
		switch f.Kind {
		case api.WireI64:
			f.N = binary.LittleEndian.Uint64(b)
		case api.WireI32:
			f.N = uint64(binary.LittleEndian.Uint32(b))
		default:
			if f.N, fixed = binary.Uvarint(b); fixed <= 0 {
				return nil, api.ErrVarint
			}
		}
		b = b[fixed:]
		if f.Kind == api.WireLen {
			if f.N > uint64(len(b)) {
				return nil, api.ErrWire
			}
			f.B, b, f.N = b[:f.N], b[f.N:], 0
		}
		l = append(l, f)
	}
	return l, api.OK
}

// modelPut answers a field's bytes.
func modelPut(f api.Raw) []byte {
	b := binary.AppendUvarint(nil, uint64(8*f.Num+f.Kind))
	switch f.Kind {
	case api.WireVarint:
		return binary.AppendUvarint(b, f.N)
	case api.WireI64:
		return binary.LittleEndian.AppendUint64(b, f.N)
	case api.WireI32:
		return binary.LittleEndian.AppendUint32(b, uint32(f.N))
	}
	return append(binary.AppendUvarint(b, uint64(len(f.B))), f.B...)
}

// model fills a part from bytes by the table and by what the part's type itself tells of its fields.
func model(all map[string][]entry, part reflect.Value, b []byte, deep int) api.Errno {
	if part.Type() == reflect.TypeFor[api.Message]() {
		if deep++; deep > 64 {
			return api.ErrLong
		}
	}
	fields, err := modelRead(b)
	if err != api.OK {
		return err
	}
	if r, is := part.Addr().Interface().(*api.Range); is {
		r.To = -1
	}
	for _, f := range fields {
		known, err := modelField(all, part, f, deep)
		if err != api.OK {
			return err
		}
		if unknown := part.FieldByName("Unknown"); !known && unknown.IsValid() {
			unknown.SetBytes(append(unknown.Bytes(), modelPut(f)...))
		}
	}
	return api.OK
}

func modelField(all map[string][]entry, part reflect.Value, f api.Raw, deep int) (bool, api.Errno) {
	for _, e := range all[part.Type().Name()] {
		if e.num != f.Num {
			continue
		}
		v := part.FieldByName(e.name)
		if v.Kind() != reflect.Slice || v.Type().Elem().Kind() == reflect.Uint8 {
			return modelWorth(all, part, e, v, f, deep)
		}
		one := reflect.New(v.Type().Elem()).Elem()
		known, err := modelWorth(all, part, e, one, f, deep)
		if known {
			v.Set(reflect.Append(v, one))
		}
		return known, err
	}
	return false, api.OK
}

func modelWorth(all map[string][]entry, part reflect.Value, e entry, v reflect.Value, f api.Raw, deep int) (bool, api.Errno) {
	kind := api.WireLen
	if v.CanInt() || v.Kind() == reflect.Bool {
		kind = api.WireVarint
	}
	if f.Kind != kind {
		return false, api.OK
	}
	n := int64(f.N)
	switch v.Kind() {
	case reflect.Bool:
		v.SetBool(n != 0)
	case reflect.Int, reflect.Int64:
		if e.bounds && (n < 0 || n > math.MaxInt32) {
			return false, api.ErrDesc
		}
		v.SetInt(n - e.add)
	case reflect.String:
		v.SetString(string(f.B))
		if e.name == "Default" {
			part.FieldByName("Has").SetBool(true)
		}
	case reflect.Slice:
		v.SetBytes(append([]byte{}, f.B...))
	default:
		return true, model(all, v, f.B, deep)
	}
	return true, api.OK
}

// modelFile answers what File must.
func modelFile(b []byte) (api.File, api.Errno) {
	var f api.File
	if err := model(entries(), reflect.ValueOf(&f).Elem(), b, 0); err != api.OK {
		return api.File{}, err
	}
	return f, api.OK
}

// modelSet answers what Set must.
func modelSet(b []byte) ([]api.File, api.Errno) {
	fields, err := modelRead(b)
	if err != api.OK {
		return nil, err
	}
	var l []api.File
	for _, field := range fields {
		if field.Num != 1 || field.Kind != api.WireLen {
			continue
		}
		f, err := modelFile(field.B)
		if err != api.OK {
			return nil, err
		}
		l = append(l, f)
	}
	return l, api.OK
}

// holdModel holds File and Set against the model.
func holdModel(t *testing.T, b []byte) api.Errno {
	t.Helper()
	before := string(b)
	want, wantErr := modelFile(b)
	got, err := undesc.File(b)
	if err != wantErr || !desc.Same(got, want) {
		t.Fatalf("File(%x) = %+v, %d, want %+v, %d", b, got, err, want, wantErr)
	}
	if err == api.OK {
		clean := undesc.Clean(got)
		clearUnknown(reflect.ValueOf(&want).Elem())
		if !desc.Same(clean, want) {
			t.Fatalf("Clean(%+v) = %+v, want %+v", got, clean, want)
		}
		holdBack(t, clean)
	}
	wantSet, wantErr := modelSet(b)
	gotSet, setErr := undesc.Set(b)
	if setErr != wantErr || len(gotSet) != len(wantSet) {
		t.Fatalf("Set(%x) = %d files, %d, want %d, %d", b, len(gotSet), setErr, len(wantSet), wantErr)
	}
	for i, f := range gotSet {
		if !desc.Same(f, wantSet[i]) {
			t.Fatalf("Set(%x)[%d] = %+v, want %+v", b, i, f, wantSet[i])
		}
	}
	if string(b) != before {
		t.Fatalf("%x has become %x", before, b)
	}
	return err
}

// holdBack asks that a file comes back from its bytes (P12.4).
func holdBack(t *testing.T, f api.File) {
	t.Helper()
	b, err := desc.Bytes(f)
	if err != api.OK {
		t.Fatalf("Bytes(%+v): %d", f, err)
	}
	got, err := undesc.File(b)
	if err != api.OK || !desc.Same(got, f) {
		t.Fatalf("File(%x) = %+v, %d, want %+v", b, got, err, f)
	}
}

// sampler makes files, and bytes, by chance that is the same each time.
type sampler struct {
	*rand.Rand
	full bool // all is there, in every part
}

func newSampler(seed uint64) sampler {
	return sampler{Rand: rand.New(rand.NewPCG(seed, 12))}
}

// sample answers a file that comes back: what has bounds is within them, and there is no Default without Has.
func sample(seed uint64) api.File {
	var f api.File
	newSampler(seed).fill(reflect.ValueOf(&f).Elem(), 3)
	clearUnknown(reflect.ValueOf(&f).Elem())
	return f
}

// whole answers a file in which nothing is zero, down to so many messages within one another.
func whole(deep int) api.File {
	var f api.File
	s := newSampler(1)
	s.full = true
	s.fill(reflect.ValueOf(&f).Elem(), deep)
	return f
}

func (s sampler) fill(v reflect.Value, deep int) {
	if !s.full && v.Kind() != reflect.Struct && s.IntN(3) == 0 {
		return
	}
	switch v.Kind() {
	case reflect.Struct:
		for i := range v.NumField() {
			s.fill(v.Field(i), deep)
		}
		if f, is := v.Addr().Interface().(*api.Field); is {
			f.Has = f.Has || f.Default != ""
		}
	case reflect.String:
		v.SetString(string(s.bytes()))
	case reflect.Bool:
		v.SetBool(true)
	case reflect.Int:
		v.SetInt(s.number() & math.MaxInt32)
	case reflect.Int64:
		v.SetInt(s.number())
	case reflect.Slice:
		s.fillList(v, deep)
	}
}

func (s sampler) fillList(v reflect.Value, deep int) {
	if v.Type().Elem().Kind() == reflect.Uint8 {
		v.SetBytes(s.bytes())
		return
	}
	if v.Type() == reflect.TypeFor[[]api.Message]() {
		deep--
	}
	if deep < 0 {
		return
	}
	l := reflect.MakeSlice(v.Type(), 1+s.IntN(2), 8)
	for i := range l.Len() {
		s.fill(l.Index(i), deep)
	}
	v.Set(l)
}

func (s sampler) bytes() []byte {
	b := make([]byte, 1+s.IntN(6))
	for i := range b {
		b[i] = byte(s.IntN(256))
	}
	if s.IntN(40) == 0 {
		b = append(b, make([]byte, 130)...)
	}
	return b
}

func (s sampler) number() int64 {
	edges := []int64{1, 2, -1, 127, 128, 1 << 31, -1 << 31, 1<<31 - 1, math.MaxInt64, math.MinInt64}
	if s.IntN(2) == 0 {
		return edges[s.IntN(len(edges))]
	}
	return 1 + s.Int64N(1<<s.IntN(60))
}

// wire answers bytes of a part: its fields by the table in any order, others among them, some in more bytes than they need. One part in so many is broken.
func (s sampler) wire(all map[string][]entry, of reflect.Type, deep, broken int) []byte {
	var b []byte
	for range s.IntN(6) {
		e := all[of.Name()][s.IntN(len(all[of.Name()]))]
		f, _ := of.FieldByName(e.name)
		b = append(b, s.wireField(all, e, f.Type, deep, broken)...)
	}
	if s.IntN(broken) == 0 {
		b = append(b, s.bytes()...)
	}
	if s.IntN(broken) == 0 {
		b = b[:s.IntN(len(b)+1)]
	}
	return b
}

func (s sampler) wireField(all map[string][]entry, e entry, of reflect.Type, deep, broken int) []byte {
	if s.IntN(12) == 0 {
		kind := []int{api.WireVarint, api.WireI64, api.WireLen, api.WireI32}[s.IntN(4)]
		num := []int{e.num, 1 + s.IntN(20), api.MaxField - s.IntN(2)}[s.IntN(3)]
		return s.put(api.Raw{Num: num, Kind: kind, N: uint64(s.number()), B: s.bytes()})
	}
	if of.Kind() == reflect.Slice {
		of = of.Elem()
	}
	f := api.Raw{Num: e.num, Kind: api.WireLen}
	switch of.Kind() {
	case reflect.Struct:
		if deep > 0 {
			f.B = s.wire(all, of, deep-1, broken)
		}
	case reflect.String, reflect.Uint8:
		f.B = s.bytes()[s.IntN(2):]
	default:
		f.Kind, f.N = api.WireVarint, uint64(s.IntN(3))
		if !e.bounds || s.IntN(broken) == 0 {
			f.N = uint64(s.number())
		}
	}
	return s.put(f)
}

// put answers a field's bytes, at times with a tag that is longer than it need be.
func (s sampler) put(f api.Raw) []byte {
	b := modelPut(f)
	_, size := binary.Uvarint(b)
	if s.IntN(10) > 0 || size > 4 {
		return b
	}
	tag := append([]byte{}, b[:size]...)
	tag[size-1] |= 0x80
	return append(append(tag, 0), b[size:]...)
}

// The model has each field of each type but Has and Unknown, so that nothing is left unasked.
func TestModelWhole(t *testing.T) {
	all := entries()
	parts := []any{api.File{}, api.Message{}, api.Field{}, api.Range{}, api.Oneof{}, api.Enum{}, api.Value{}, api.Service{}, api.Method{}}
	for _, part := range parts {
		of := reflect.TypeOf(part)
		said := map[string]int{"Unknown": 0, "Has": 0}
		for _, e := range all[of.Name()] {
			said[e.name] = e.num
		}
		for i := range of.NumField() {
			if _, is := said[of.Field(i).Name]; !is {
				t.Errorf("the model has no %s of a %s", of.Field(i).Name, of.Name())
			}
		}
	}
	if len(all) != len(parts) {
		t.Errorf("the model has %d types", len(all))
	}
}

// P12.1 to P12.4 on bytes by chance, of which each error comes up.
func TestModel(t *testing.T) {
	all, of := entries(), reflect.TypeFor[api.File]()
	seen := map[api.Errno]int{}
	for seed := range uint64(20000) {
		s := newSampler(seed)
		b := s.wire(all, of, 5, 20)
		seen[holdModel(t, b)]++
		set := s.put(api.Raw{Num: 1, Kind: api.WireLen, B: b})
		set = append(set, s.put(api.Raw{Num: 1 + s.IntN(2), Kind: api.WireLen, B: s.wire(all, of, 3, 20)})...)
		holdModel(t, set)
	}
	for _, err := range []api.Errno{api.OK, api.ErrDesc, api.ErrVarint, api.ErrTag, api.ErrWire} {
		if seen[err] < 50 {
			t.Errorf("error %d came up %d times: %v", err, seen[err], seen)
		}
	}
}

// P12.1 on messages that are about as deep as may be, with whatever stands beside.
func TestModelDeep(t *testing.T) {
	all, of := entries(), reflect.TypeFor[api.Message]()
	seen := map[api.Errno]int{}
	for seed := range uint64(2000) {
		s := newSampler(seed)
		var b []byte
		for range 61 + s.IntN(6) {
			b = s.put(api.Raw{Num: 3, Kind: api.WireLen, B: b})
			if s.IntN(30) == 0 {
				b = append(s.wire(all, of, 2, 20), b...)
			}
		}
		b[0] = 0x22
		seen[holdModel(t, b)]++
	}
	if seen[api.OK] < 100 || seen[api.ErrLong] < 100 {
		t.Errorf("what came up: %v", seen)
	}
}

// P12.4 on files by chance.
func TestBack(t *testing.T) {
	var l []api.File
	for seed := range uint64(300) {
		f := sample(seed)
		holdBack(t, f)
		l = append(l, f)
	}
	holdBack(t, undesc.Clean(whole(4)))
	b, _ := desc.Set(l)
	got, err := undesc.Set(b)
	if err != api.OK || len(got) != len(l) {
		t.Fatalf("Set of %d files: %d, %d", len(l), len(got), err)
	}
	for i, f := range got {
		if !desc.Same(f, l[i]) {
			t.Errorf("file %d of the set is %+v, want %+v", i, f, l[i])
		}
	}
}

func FuzzFile(f *testing.F) {
	for seed := range uint64(10) {
		f.Add(newSampler(seed).wire(entries(), reflect.TypeFor[api.File](), 3, 20))
		b, _ := desc.Bytes(sample(seed))
		f.Add(b)
	}
	f.Add([]byte("\x50\x80\x80\x80\x80\x08"))
	f.Add([]byte(deepBytes(65)))
	f.Fuzz(func(t *testing.T, b []byte) {
		holdModel(t, b)
	})
}

func FuzzSeed(f *testing.F) {
	for seed := range uint64(10) {
		f.Add(seed)
	}
	f.Fuzz(func(t *testing.T, seed uint64) {
		holdBack(t, sample(seed))
		holdModel(t, newSampler(seed).wire(entries(), reflect.TypeFor[api.File](), 4, 30))
	})
}

// copied answers a file in memory of its own.
func copied(f api.File) api.File {
	var own api.File
	copyInto(reflect.ValueOf(&own).Elem(), reflect.ValueOf(f))
	return own
}

func copyInto(to, from reflect.Value) {
	switch {
	case from.Kind() == reflect.Struct:
		for i := range from.NumField() {
			copyInto(to.Field(i), from.Field(i))
		}
	case from.Kind() == reflect.Slice && !from.IsNil():
		to.Set(reflect.MakeSlice(from.Type(), from.Len(), from.Len()))
		for i := range from.Len() {
			copyInto(to.Index(i), from.Index(i))
		}
	default:
		to.Set(from)
	}
}
