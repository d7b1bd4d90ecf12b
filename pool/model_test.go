package pool_test

import (
	"fmt"
	"math/rand/v2"
	"reflect"
	"slices"
	"sort"
	"strconv"
	"strings"
	"testing"

	"glossary/api"
	"glossary/copies"
	"glossary/pool"
)

// order is the chapter's: which lists of a part name something, in turn, and of which kind that is.
const order = `
File: Messages 2, Enums 3, Services 8, Extends 6
Message: Fields 5, Oneofs 7, Nested 2, Enums 3, Extends 6
Enum: Values 4
Service: Methods 9
`

// row is a name that is met, in turn.
type row struct {
	full string
	kind int
	home string
	part any
}

// list is one of a part's that name something.
type list struct {
	name string
	kind int
}

func lists() map[string][]list {
	all := map[string][]list{}
	for line := range strings.Lines(strings.TrimSpace(order)) {
		of, said, _ := strings.Cut(strings.TrimSpace(line), ": ")
		for word := range strings.SplitSeq(said, ", ") {
			var l list
			fmt.Sscan(word, &l.name, &l.kind)
			all[of] = append(all[of], l)
		}
	}
	return all
}

// rows answers what a file names, in turn, packages and all.
func rows(f api.File) []row {
	var l []row
	pack := strings.Split(f.Package, ".")
	for n := len(pack); n > 0; n-- {
		if full := strings.Join(pack[:n], "."); full != "" {
			l = append(l, row{full, api.SymPackage, f.Name, nil})
		}
	}
	return append(l, within(lists(), reflect.ValueOf(f), f.Package, f.Name)...)
}

func within(all map[string][]list, part reflect.Value, scope, home string) []row {
	var l []row
	for _, of := range all[part.Type().Name()] {
		items := part.FieldByName(of.name)
		for i := range items.Len() {
			item := items.Index(i)
			full := item.FieldByName("Name").String()
			if scope != "" {
				full = scope + "." + full
			}
			l = append(l, row{full, of.kind, home, item.Interface()})
			inner := full
			if of.kind == api.SymEnum {
				inner = scope
			}
			l = append(l, within(all, item, inner, home)...)
		}
	}
	return l
}

// model is a list of what there is, without packages that are there already.
type model []row

func (m model) at(full string) int {
	return slices.IndexFunc(m, func(r row) bool { return r.full == full })
}

// modelNew answers what there is, or the first name that may not be.
func modelNew(l []api.File) (model, string, bool) {
	var m model
	for _, f := range l {
		for _, r := range rows(f) {
			at := m.at(r.full)
			switch {
			case at < 0:
				m = append(m, r)
			case r.kind != api.SymPackage || m[at].kind != api.SymPackage:
				return nil, r.full, false
			}
		}
	}
	return m, "", true
}

// places answers where a name is looked for.
func places(scope, name string) []string {
	if strings.HasPrefix(name, ".") {
		return []string{name[1:]}
	}
	l := []string{name}
	for at, sign := range scope + "." {
		if sign == '.' && at > 0 {
			l = append(l, scope[:at]+"."+name)
		}
	}
	slices.Reverse(l)
	return l
}

func (m model) look(scope, name string, seen []string, kinds []int) (string, bool) {
	for _, place := range places(scope, name) {
		for _, r := range m {
			if r.full == place && slices.Contains(kinds, r.kind) && slices.Contains(seen, r.home) {
				return place, true
			}
		}
	}
	return "", false
}

// keywords are those that the samples' names may be.
var keywords = []string{"to", "max", "string", "map"}

func (m model) short(scope, full string, seen []string, kinds []int) string {
	best := "." + full
	for at := range len(full) + 1 {
		end := full[at:]
		if at > 0 && full[at-1] != '.' || slices.Contains(keywords, strings.Split(end, ".")[0]) {
			continue
		}
		if found, is := m.look(scope, end, seen, kinds); is && found == full && len(end) < len(best) {
			best = end
		}
	}
	return best
}

func (m model) exts(full string) []string {
	var l []row
	for _, r := range m {
		if f, is := r.part.(api.Field); is && r.kind == api.SymExt && f.Extendee == "."+full {
			l = append(l, r)
		}
	}
	sort.Slice(l, func(i, k int) bool {
		a, b := l[i].part.(api.Field).Number, l[k].part.(api.Field).Number
		return a < b || a == b && l[i].full < l[k].full
	})
	var names []string
	for _, r := range l {
		names = append(names, r.full)
	}
	return names
}

// sampler fills files by chance that is the same each time.
type sampler struct {
	*rand.Rand
	full  bool // all is there, and no name twice
	words int  // how many names there are; the fewer, the more often one comes twice
	count int
}

// sample answers a file; if full, one in which nothing is zero, of names that no other seed's have.
func sample(seed uint64, full bool) api.File {
	var f api.File
	s := &sampler{Rand: rand.New(rand.NewPCG(seed, 14)), full: full, count: int(seed) * 10000}
	s.words = []int{4, 20, 100, 1000, 1 << 20}[s.IntN(5)]
	s.fill(reflect.ValueOf(&f).Elem(), 2)
	if !full {
		f.Name = strconv.Itoa(s.IntN(4))
		f.Package = []string{"", "a", "a.b", "b", "a.to", "c..b", ".", ".a", "a.b.c"}[s.IntN(9)]
	}
	return f
}

func (s *sampler) fill(v reflect.Value, deep int) {
	s.count++
	if !s.full && v.Kind() != reflect.Struct && v.Kind() != reflect.String && s.IntN(3) == 0 {
		return
	}
	switch v.Kind() {
	case reflect.Struct:
		for i := range v.NumField() {
			s.fill(v.Field(i), deep)
		}
	case reflect.String:
		v.SetString(s.text())
	case reflect.Bool:
		v.SetBool(true)
	case reflect.Int, reflect.Int64:
		v.SetInt(s.Int64N(5) - 1)
		if s.full {
			v.SetInt(int64(s.count))
		}
	case reflect.Uint8:
		v.SetUint(uint64(1 + s.IntN(255)))
	case reflect.Slice:
		if v.Type() == reflect.TypeFor[[]api.Message]() {
			deep--
		}
		if deep < 0 {
			return
		}
		v.Set(reflect.MakeSlice(v.Type(), 2, 4))
		if !s.full {
			v.SetLen(1 + s.IntN(3))
		}
		for i := range v.Len() {
			s.fill(v.Index(i), deep)
		}
	}
}

// text answers one that is a name, or a name of an extended message, or none.
func (s *sampler) text() string {
	if s.full {
		return "name_" + strconv.Itoa(s.count)
	}
	said := "n" + strconv.Itoa(s.IntN(s.words))
	switch s.IntN(60) {
	case 0:
		return ""
	case 1:
		return keywords[s.IntN(len(keywords))]
	case 2:
		return string(rune('a' + s.IntN(3)))
	case 3:
		return said + "." + said
	case 4, 5, 6, 7, 8, 9:
		return []string{".a", ".a.b", ".n1", "."}[s.IntN(4)]
	}
	return said
}

// copied answers files in memory of their own.
func copied(l []api.File) []api.File {
	var own []api.File
	for _, f := range l {
		own = append(own, copies.Way{Levels: api.MaxDeep}.File(f))
	}
	return own
}

// holdModel holds a pool against the model; it answers whether there is one.
func holdModel(t *testing.T, seed uint64) bool {
	t.Helper()
	s := &sampler{Rand: rand.New(rand.NewPCG(seed, 15)), words: 20}
	var l []api.File
	for i := range uint64(s.IntN(4)) {
		l = append(l, sample(seed*4+i, false))
	}
	before := copied(l)
	p, full, err := pool.New(l)
	if !reflect.DeepEqual(l, before) {
		t.Fatalf("seed %d: what was given is changed", seed)
	}
	m, wrong, is := modelNew(l)
	if !is {
		if p != nil || full != wrong || err != api.ErrSymbol {
			t.Fatalf("seed %d: New(%+v): %q, %d, want %q", seed, l, full, err, wrong)
		}
		return false
	}
	if p == nil || full != "" || err != api.OK {
		t.Fatalf("seed %d: New(%+v): %q, %d", seed, l, full, err)
	}
	var fulls []string
	for _, r := range m {
		fulls = append(fulls, r.full)
		holdRow(t, p, r)
		if got, want := p.Exts(r.full), m.exts(r.full); !slices.Equal(got, want) {
			t.Fatalf("seed %d: Exts(%q): %q, want %q", seed, r.full, got, want)
		}
	}
	for range 50 {
		holdLook(t, p, m, s)
	}
	slices.Sort(fulls)
	if got := p.Names(); !slices.Equal(got, fulls) {
		t.Fatalf("seed %d: Names: %q, want %q", seed, got, fulls)
	}
	holdFiles(t, p, l)
	return true
}

func holdRow(t *testing.T, p *pool.Pool, r row) {
	t.Helper()
	if p.Kind(r.full) != r.kind || p.Home(r.full) != r.home {
		t.Fatalf("%q is %d of %q, want %d of %q", r.full, p.Kind(r.full), p.Home(r.full), r.kind, r.home)
	}
	message, isMessage := p.Message(r.full)
	enum, isEnum := p.Enum(r.full)
	ext, isExt := p.Ext(r.full)
	wantMessage, _ := r.part.(api.Message)
	wantEnum, _ := r.part.(api.Enum)
	var wantExt api.Field
	if r.kind == api.SymExt {
		wantExt = r.part.(api.Field)
	}
	if isMessage != (r.kind == api.SymMessage) || isEnum != (r.kind == api.SymEnum) || isExt != (r.kind == api.SymExt) ||
		!reflect.DeepEqual(message, wantMessage) || !reflect.DeepEqual(enum, wantEnum) || !reflect.DeepEqual(ext, wantExt) {
		t.Fatalf("%q: %+v, %+v, %+v, want %+v", r.full, message, enum, ext, r.part)
	}
}

func holdFiles(t *testing.T, p *pool.Pool, l []api.File) {
	t.Helper()
	units := p.Units()
	if len(units) != len(l) {
		t.Fatalf("%d units of %d files", len(units), len(l))
	}
	for i, f := range l {
		if u := units[i]; u.Path != f.Name || !slices.Equal(u.Deps, f.Deps) || !slices.Equal(u.Public, f.Public) {
			t.Fatalf("%+v of %+v", u, f)
		}
		first := slices.IndexFunc(l, func(other api.File) bool { return other.Name == f.Name })
		if got, is := p.File(f.Name); !is || !reflect.DeepEqual(got, l[first]) {
			t.Fatalf("File(%q): %+v, want %+v", f.Name, got, l[first])
		}
	}
}

// holdLook holds Look and Short against the model, from and for names that are there, or nearly.
func holdLook(t *testing.T, p *pool.Pool, m model, s *sampler) {
	t.Helper()
	some := func() string {
		if len(m) == 0 || s.IntN(6) == 0 {
			return s.text()
		}
		full := m[s.IntN(len(m))].full
		switch s.IntN(8) {
		case 0:
			return full + "." + s.text()
		case 1:
			return "." + full
		}
		return full
	}
	scope, full := some(), some()
	if s.IntN(3) == 0 {
		scope = full
	}
	var seen []string
	var kinds []int
	for i := range 4 {
		if s.IntN(4) > 0 {
			seen = append(seen, strconv.Itoa(i))
		}
	}
	for kind := range 10 {
		if s.IntN(2) == 0 {
			kinds = append(kinds, kind)
		}
	}
	if got, want := p.Short(scope, full, seen, kinds), m.short(scope, full, seen, kinds); got != want {
		t.Fatalf("Short(%q, %q, %v, %v): %q, want %q", scope, full, seen, kinds, got, want)
	}
	name := full[s.IntN(len(full)+1):]
	got, is := p.Look(scope, name, seen, kinds)
	if want, wanted := m.look(scope, name, seen, kinds); got != want || is != wanted {
		t.Fatalf("Look(%q, %q, %v, %v): %q, %v, want %q", scope, name, seen, kinds, got, is, want)
	}
}

// P14.1 to P14.5, P14.7, P14.8 on files by chance.
func TestModel(t *testing.T) {
	count, there := 3000, 0
	for seed := range uint64(count) {
		if holdModel(t, seed) {
			there++
		}
	}
	if there < count/4 || there > count*3/4 {
		t.Errorf("%d of %d are pools", there, count)
	}
}

// The model has each list of parts that have names, so that nothing is left unasked.
func TestModelWhole(t *testing.T) {
	all := lists()
	for _, part := range []any{api.File{}, api.Message{}, api.Enum{}, api.Service{}, api.Field{}, api.Oneof{}, api.Value{}, api.Method{}} {
		of := reflect.TypeOf(part)
		count := 0
		for i := range of.NumField() {
			l := of.Field(i).Type
			if l.Kind() != reflect.Slice || l.Elem().Kind() != reflect.Struct || l == reflect.TypeFor[[]api.Range]() {
				continue
			}
			count++
			if !slices.ContainsFunc(all[of.Name()], func(l list) bool { return l.name == of.Field(i).Name }) {
				t.Errorf("the model has no %s of a %s", of.Field(i).Name, of.Name())
			}
		}
		if count != len(all[of.Name()]) {
			t.Errorf("the model has %d lists of a %s, want %d", len(all[of.Name()]), of.Name(), count)
		}
	}
}

func FuzzSeed(f *testing.F) {
	for seed := range uint64(10) {
		f.Add(seed)
	}
	f.Fuzz(func(t *testing.T, seed uint64) {
		holdModel(t, seed)
	})
}

func FuzzNames(f *testing.F) {
	f.Add("a.b", "M", "N", "a.b.M", "N", 2)
	f.Add("", "", "", "", "", 0)
	f.Add(".", "a", "", "..a", ".", 6)
	f.Fuzz(func(t *testing.T, pack, name, inner, scope, asked string, kind int) {
		l := []api.File{{Name: "x", Package: pack, Messages: []api.Message{{Name: name, Nested: messages(inner)}}}, {Name: "y", Package: inner, Extends: []api.Field{{Name: name, Extendee: "." + asked}}}}
		m, wrong, is := modelNew(l)
		p, full, err := pool.New(l)
		if full != wrong || (err == api.OK) != is || (p != nil) != is {
			t.Fatalf("New(%+v): %q, %d, want %q", l, full, err, wrong)
		}
		seen, kinds := []string{"x", "y"}, []int{kind, api.SymMessage}
		got, found := p.Look(scope, asked, seen, kinds)
		if want, wanted := m.look(scope, asked, seen, kinds); got != want || found != wanted {
			t.Fatalf("Look(%q, %q): %q, %v, want %q", scope, asked, got, found, want)
		}
		short := p.Short(scope, asked, seen, kinds)
		if back, is := p.Look(scope, asked, seen, kinds); is && back == asked && len(short) > len(asked)+1 {
			t.Fatalf("Short(%q, %q): %q", scope, asked, short)
		}
		if back, is := p.Look(scope, short, seen, kinds); short != "."+asked && (!is || back != asked) {
			t.Fatalf("Short(%q, %q): %q, which finds %q", scope, asked, short, back)
		}
		if got := p.Exts(asked); !slices.Equal(got, m.exts(asked)) {
			t.Fatalf("Exts(%q): %q, want %q", asked, got, m.exts(asked))
		}
	})
}
