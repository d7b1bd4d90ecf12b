package link_test

import (
	"math/rand/v2"
	"reflect"
	"slices"
	"strconv"
	"strings"
	"testing"

	"glossary/api"
	"glossary/copies"
	"glossary/link"
	"glossary/pool"
)

// order is the chapter's: which lists and names of a part are gone over, in turn.
const order = `
File: Messages Services Extends
Message: Fields Nested Extends
Service: Methods
Field: Extendee TypeName
Method: In Out
`

// turns answers what of a part is gone over.
func turns(part string) []string {
	for line := range strings.Lines(order) {
		if of, said, is := strings.Cut(line, ":"); is && of == part {
			return strings.Fields(said)
		}
	}
	return nil
}

// symbol is what a pool has, as it tells itself.
type symbol struct {
	full string
	kind int
	home string
}

// look answers the innermost symbol that a name means.
func look(all []symbol, scope, name string, seen []string, enums bool) (symbol, bool) {
	var best symbol
	found := false
	for _, s := range all {
		fits := s.kind == api.SymMessage || enums && s.kind == api.SymEnum
		if !fits || !slices.Contains(seen, s.home) {
			continue
		}
		if rest, is := strings.CutPrefix(name, "."); is {
			if s.full == rest {
				return s, true
			}
			continue
		}
		ahead, is := strings.CutSuffix(s.full, name)
		if !is || ahead != "" && !strings.HasSuffix(ahead, ".") || ahead == "." {
			continue
		}
		if ahead != "" && !strings.HasPrefix(scope+".", ahead) {
			continue
		}
		if !found || len(s.full) > len(best.full) {
			best, found = s, true
		}
	}
	return best, found
}

// model finds names in a copy of a file, by the chapter's order.
type model struct {
	all   []symbol
	seen  []string
	wrong string
	is    bool // whether a name isn't found
}

func (m *model) part(v reflect.Value, scope, pack string) {
	for _, name := range turns(v.Type().Name()) {
		if m.is {
			return
		}
		at := v.FieldByName(name)
		if at.Kind() == reflect.String {
			m.name(v, name, scope, pack)
			continue
		}
		for i := range at.Len() {
			if m.is {
				return
			}
			item := at.Index(i)
			inner := scope
			if item.Type() == reflect.TypeFor[api.Message]() {
				inner = strings.TrimPrefix(scope+"."+item.FieldByName("Name").String(), ".")
			}
			m.part(item, inner, pack)
		}
	}
}

func (m *model) name(v reflect.Value, name, scope, pack string) {
	at := v.FieldByName(name)
	switch {
	case name == "Extendee" && at.String() == "", name == "TypeName" && v.FieldByName("Type").Int() != 0:
		return
	case name == "In", name == "Out":
		scope = pack
	}
	s, is := look(m.all, scope, at.String(), m.seen, name == "TypeName")
	if !is {
		m.wrong, m.is = at.String(), true
		return
	}
	at.SetString("." + s.full)
	if name == "TypeName" {
		v.FieldByName("Type").SetInt(map[int]int64{api.SymMessage: api.TMessage, api.SymEnum: api.TEnum}[s.kind])
	}
}

// modelFile answers what link.File is to answer.
func modelFile(f api.File, p *pool.Pool, seen []string) (api.File, string, api.Errno) {
	m := &model{seen: seen}
	for _, full := range p.Names() {
		m.all = append(m.all, symbol{full, p.Kind(full), p.Home(full)})
	}
	own := copies.Way{Levels: 64}.File(f)
	m.part(reflect.ValueOf(&own).Elem(), f.Package, f.Package)
	if m.is {
		return api.File{}, m.wrong, api.ErrName
	}
	return own, "", api.OK
}

// sampler fills files by chance that is the same each time.
type sampler struct {
	*rand.Rand
	names []string // full names that may be written
	count int
}

// sample answers files, their pool, if there is one, and what is seen.
func sample(seed uint64) ([]api.File, *pool.Pool, []string) {
	s := &sampler{Rand: rand.New(rand.NewPCG(seed, 15))}
	var l []api.File
	for i := range 1 + s.IntN(3) {
		var f api.File
		s.fill(reflect.ValueOf(&f).Elem(), 2)
		f.Name = "file" + strconv.Itoa(i)
		f.Package = []string{"", "a", "a.b", "c", "a.b.c"}[s.IntN(5)]
		l = append(l, f)
	}
	p, _, err := pool.New(l)
	if err != api.OK {
		return l, nil, nil
	}
	for _, full := range p.Names() {
		if kind := p.Kind(full); kind == api.SymMessage || kind == api.SymEnum && s.IntN(2) == 0 || s.IntN(30) == 0 {
			s.names = append(s.names, full)
		}
	}
	var seen []string
	for i := range l {
		if s.IntN(8) > 0 {
			seen = append(seen, "file"+strconv.Itoa(i))
		}
	}
	wrong := []int{0, 15, 50}[s.IntN(3)]
	for i := range l {
		s.write(reflect.ValueOf(&l[i]).Elem(), l[i].Package, l[i].Package, p, seen, wrong)
	}
	return copiesOf(l), p, seen
}

// copiesOf answers files in memory of their own.
func copiesOf(l []api.File) []api.File {
	var own []api.File
	for _, f := range l {
		own = append(own, copies.Way{Levels: 64}.File(f))
	}
	return own
}

func (s *sampler) fill(v reflect.Value, deep int) {
	s.count++
	switch v.Kind() {
	case reflect.Struct:
		for i := range v.NumField() {
			s.fill(v.Field(i), deep)
		}
	case reflect.String:
		v.SetString(s.word())
	case reflect.Bool:
		v.SetBool(s.IntN(2) == 0)
	case reflect.Int, reflect.Int64:
		v.SetInt(s.Int64N(20) - 1)
	case reflect.Uint8:
		v.SetUint(uint64(s.IntN(256)))
	case reflect.Slice:
		if v.Type() == reflect.TypeFor[[]api.Message]() {
			deep--
		}
		if deep < 0 {
			return
		}
		v.Set(reflect.MakeSlice(v.Type(), s.IntN(3), 4))
		for i := range v.Len() {
			s.fill(v.Index(i), deep)
		}
	}
}

// word answers a name that may be somewhere else too, if seldom in the same place.
func (s *sampler) word() string {
	if s.IntN(2) == 0 {
		return "n" + strconv.Itoa(s.count%40)
	}
	return "w" + strconv.Itoa(s.count)
}

// write writes names into fields and methods: most of them are there.
func (s *sampler) write(v reflect.Value, scope, pack string, p *pool.Pool, seen []string, wrong int) {
	switch v.Kind() {
	case reflect.Struct:
		switch v.Type() {
		case reflect.TypeFor[api.Message]():
			scope = strings.TrimPrefix(scope+"."+v.FieldByName("Name").String(), ".")
		case reflect.TypeFor[api.Field]():
			v.FieldByName("Type").SetInt([]int64{0, 0, 0, 5, 11, 14, 99}[s.IntN(7)])
			v.FieldByName("TypeName").SetString(s.written(scope, p, seen, wrong, api.SymMessage, api.SymEnum))
			v.FieldByName("Extendee").SetString(s.written(scope, p, seen, wrong, api.SymMessage))
			if s.IntN(3) == 0 {
				v.FieldByName("Extendee").SetString("")
			}
			return
		case reflect.TypeFor[api.Method]():
			v.FieldByName("In").SetString(s.written(pack, p, seen, wrong, api.SymMessage))
			v.FieldByName("Out").SetString(s.written(pack, p, seen, wrong, api.SymMessage))
			return
		}
		for i := range v.NumField() {
			s.write(v.Field(i), scope, pack, p, seen, wrong)
		}
	case reflect.Slice:
		for i := range v.Len() {
			s.write(v.Index(i), scope, pack, p, seen, wrong)
		}
	}
}

// written answers a name by which something is found, but one of so many that is just by chance.
func (s *sampler) written(scope string, p *pool.Pool, seen []string, wrong int, kinds ...int) string {
	some := func() string {
		if len(s.names) == 0 {
			return "q"
		}
		full := s.names[s.IntN(len(s.names))]
		parts := strings.Split(full, ".")
		if s.IntN(3) == 0 {
			return "." + full
		}
		return strings.Join(parts[s.IntN(len(parts)):], ".")
	}
	name := some()
	if wrong > 0 && s.IntN(wrong) == 0 {
		return []string{name, "", ".", "q", "." + name, name + "."}[s.IntN(6)]
	}
	for range 100 {
		if _, is := p.Look(scope, name, seen, kinds); is {
			break
		}
		name = some()
	}
	return name
}

// holdModel holds File against the model; it answers how many files are linked, of how many.
func holdModel(t *testing.T, seed uint64) (int, int) {
	t.Helper()
	l, p, seen := sample(seed)
	if p == nil {
		return 0, 0
	}
	before := copiesOf(l)
	good := 0
	for i, f := range l {
		got, name, err := link.File(f, p, seen)
		want, wrong, wanted := modelFile(before[i], p, seen)
		if name != wrong || err != wanted || !reflect.DeepEqual(got, want) {
			t.Fatalf("seed %d: %d: %+v, %q, %d, want %+v, %q, %d", seed, i, got, name, err, want, wrong, wanted)
		}
		if !reflect.DeepEqual(f, before[i]) {
			t.Fatalf("seed %d: what was given is changed", seed)
		}
		if err != api.OK {
			continue
		}
		good++
		// What is found is found again.
		if again, name, err := link.File(got, p, seen); err != api.OK || !reflect.DeepEqual(again, got) {
			t.Fatalf("seed %d: %d: %+v, %q, %d, want %+v", seed, i, again, name, err, got)
		}
	}
	return good, len(l)
}

// P15.1 on files by chance.
func TestModel(t *testing.T) {
	good, count := 0, 0
	for seed := range uint64(3000) {
		some, of := holdModel(t, seed)
		good, count = good+some, count+of
	}
	if count < 2000 || good < count/4 || good > count*3/4 {
		t.Errorf("%d of %d files are linked", good, count)
	}
}

func FuzzSeed(f *testing.F) {
	for seed := range uint64(10) {
		f.Add(seed)
	}
	f.Fuzz(func(t *testing.T, seed uint64) {
		holdModel(t, seed)
	})
}

func FuzzNames(f *testing.F) {
	f.Add("a.b", "M", "N", "E", "N", "M", 0)
	f.Add("", "", "", ".", "", "", 0)
	f.Add("a", "b", "c", ".a.b.c", "b.c", "a.b", 5)
	f.Fuzz(func(t *testing.T, pack, name, inner, in, typed, extendee string, kind int) {
		file := api.File{Name: "x", Package: pack, Messages: []api.Message{{Name: name, Fields: []api.Field{{Name: "f", Type: kind, TypeName: typed}},
			Nested: []api.Message{{Name: inner, Extends: extends("e", extendee, typed)}}}}, Enums: []api.Enum{{Name: inner}},
			Services: []api.Service{service("S", in, in)}, Extends: extends("e", extendee, typed)}
		p, _, _ := pool.New([]api.File{file})
		got, wrong, err := link.File(file, p, []string{"x"})
		if err == api.ErrName {
			if !slices.Contains([]string{in, typed, extendee}, wrong) || !reflect.DeepEqual(got, api.File{}) {
				t.Fatalf("%q isn't written", wrong)
			}
			return
		}
		s, is := p.Look(pack, in, []string{"x"}, []int{api.SymMessage})
		if err != api.OK || wrong != "" || !is || got.Services[0].Methods[0].In != "."+s {
			t.Fatalf("%+v, %q, %d", got, wrong, err)
		}
	})
}
