package lower_test

import (
	"math/rand/v2"
	"reflect"
	"slices"
	"strconv"
	"strings"
	"testing"

	"glossary/api"
	"glossary/desc"
	"glossary/lower"
	"glossary/names"
	"glossary/node"
	"glossary/parse"
	"glossary/show"
)

// The model answers what File must, by passes: one for what is wrong, one for each list, one for what is asked.

// spot is a part with what it has by where it stands.
type spot struct {
	n        api.Node
	oneof    int // from 1 on
	extendee string
}

// spread answers the parts of a scope in the order of nodes, those within oneofs and extends among them.
func spread(kids []api.Node) []spot {
	var l []spot
	oneofs := 0
	for _, kid := range kids {
		if kid.Kind != api.KExtend {
			l = append(l, spot{n: kid})
		}
		if kid.Kind == api.KOneof {
			oneofs++
		}
		for _, inner := range kid.Kids {
			switch {
			case kid.Kind == api.KExtend:
				l = append(l, spot{n: inner, extendee: kid.Text})
			case kid.Kind == api.KOneof && inner.Kind == api.KField:
				l = append(l, spot{n: inner, oneof: oneofs})
			}
		}
	}
	return l
}

// worthsOf answers a field's worths of a word that is its own, and the options that give them.
func worthsOf(n api.Node, word string) (worths, options []api.Node) {
	for _, option := range n.Kids {
		if isOwn(option, word) {
			worths, options = append(worths, option.Kids[1]), append(options, option)
		}
	}
	return worths, options
}

func isOwn(option api.Node, words ...string) bool {
	return option.Kind == api.KOption && len(option.Kids) == 2 && option.Kids[0].A == 0 && slices.Contains(words, option.Kids[0].Text)
}

// fault is an error and its place.
type fault struct {
	at  int
	err api.Errno
}

// faults answers all that is wrong in a scope, in the order of nodes.
func faults(kids []api.Node, syntax string) []fault {
	var l []fault
	for _, s := range spread(kids) {
		switch s.n.Kind {
		case api.KMessage:
			l = append(l, faults(s.n.Kids, syntax)...)
		case api.KField, api.KMap:
			if s.n.Kind == api.KField && s.n.A == 0 && s.oneof == 0 && syntax != "proto3" {
				l = append(l, fault{s.n.At, api.ErrLabel})
			}
			for _, option := range s.n.Kids {
				if err := faultOf(s, option); err != api.OK {
					l = append(l, fault{option.At, err})
				}
			}
		}
	}
	return l
}

func faultOf(s spot, option api.Node) api.Errno {
	may := true
	switch {
	case isOwn(option, "default"):
		may = s.n.Kind == api.KField && s.n.A != api.LabelRepeated && mayDefault(lower.Type(s.n.Kids[0].Text), option.Kids[1])
	case isOwn(option, "json_name"):
		may = s.extendee == "" && option.Kids[1].Kind == api.KString
	default:
		return api.OK
	}
	if !may {
		return api.ErrDefault
	}
	if _, options := worthsOf(s.n, option.Kids[0].Text); options[0].At != option.At {
		return api.ErrTwice
	}
	return api.OK
}

// each answers what is made of the parts of these kinds.
func each[T any](l []spot, of func(s spot) T, kinds ...int) []T {
	var made []T
	for _, s := range l {
		if slices.Contains(kinds, s.n.Kind) {
			made = append(made, of(s))
		}
	}
	return made
}

func without(l []spot, extended bool) []spot {
	return slices.DeleteFunc(slices.Clone(l), func(s spot) bool { return (s.extendee != "") == extended })
}

func modelFile(n api.Node, path string) api.File {
	f := api.File{Name: path}
	l := spread(n.Kids)
	if n.Text == "proto3" {
		f.Syntax = n.Text
	}
	for _, kid := range n.Kids {
		if kid.Kind == api.KPackage {
			f.Package = kid.Text
		}
	}
	f.Deps = each(l, func(s spot) string { return s.n.Text }, api.KImport)
	for i, public := range each(l, func(s spot) int { return s.n.A }, api.KImport) {
		if public == 1 {
			f.Public = append(f.Public, i)
		}
	}
	f.Messages = each(l, func(s spot) api.Message { return modelMessage(s.n, n.Text, f.Package) }, api.KMessage)
	f.Enums = each(l, modelEnum, api.KEnum)
	f.Services = each(l, modelService, api.KService)
	f.Extends = each(l, func(s spot) api.Field { return modelField(s, n.Text, "") }, api.KField)
	return f
}

func modelMessage(n api.Node, syntax, scope string) api.Message {
	own := n.Text
	if scope != "" {
		own = scope + "." + own
	}
	l := spread(n.Kids)
	m := api.Message{Name: n.Text}
	field := func(s spot) api.Field { return modelField(s, syntax, own) }
	m.Fields = each(without(l, true), field, api.KField, api.KMap)
	m.Extends = each(without(l, false), field, api.KField)
	m.Nested = each(l, func(s spot) api.Message {
		if s.n.Kind == api.KMap {
			return modelEntry(s.n)
		}
		return modelMessage(s.n, syntax, own)
	}, api.KMessage, api.KMap)
	m.Enums = each(l, modelEnum, api.KEnum)
	m.Oneofs = each(l, func(s spot) api.Oneof { return api.Oneof{Name: s.n.Text} }, api.KOneof)
	for _, s := range l {
		inner := spread(s.n.Kids)
		ranges := each(inner, func(s spot) api.Range { return api.Range{From: s.n.N, To: s.n.M} }, api.KRange)
		if s.n.Kind == api.KExtensions {
			m.Ranges = append(m.Ranges, ranges...)
		} else {
			m.Reserved = append(m.Reserved, ranges...)
		}
		m.Words = append(m.Words, each(inner, func(s spot) string { return s.n.Text }, api.KWord)...)
	}
	modelSynthetic(&m)
	return m
}

func modelSynthetic(m *api.Message) {
	isTaken := map[string]bool{}
	for _, f := range m.Fields {
		isTaken[f.Name] = true
	}
	for _, o := range m.Oneofs {
		isTaken[o.Name] = true
	}
	for i, f := range m.Fields {
		if !f.Optional {
			continue
		}
		name := "_" + f.Name
		for isTaken[name] {
			name = "X" + name
		}
		isTaken[name] = true
		m.Oneofs = append(m.Oneofs, api.Oneof{Name: name})
		m.Fields[i].Oneof = len(m.Oneofs)
	}
}

func modelTyped(f api.Field, word string) api.Field {
	f.Type = lower.Type(word)
	if f.Type == 0 {
		f.TypeName = word
	}
	return f
}

func modelEntry(n api.Node) api.Message {
	return api.Message{Name: names.Entry(n.Text), Options: []byte("8\x01"), Fields: []api.Field{
		modelTyped(api.Field{Name: "key", Json: "key", Number: 1, Label: 1}, n.Kids[0].Text),
		modelTyped(api.Field{Name: "value", Json: "value", Number: 2, Label: 1}, n.Kids[1].Text),
	}}
}

func modelField(s spot, syntax, own string) api.Field {
	f := api.Field{Name: s.n.Text, Number: s.n.N, Label: max(s.n.A, 1), Oneof: s.oneof, Extendee: s.extendee}
	if s.n.Kind == api.KMap {
		f.Label, f.Type, f.TypeName = 3, 11, "."+own+"."+names.Entry(s.n.Text)
	} else {
		f = modelTyped(f, s.n.Kids[0].Text)
	}
	if s.extendee == "" {
		f.Json = names.Json(s.n.Text)
		f.Optional = syntax == "proto3" && s.n.A == 1
	}
	for _, worth := range first(worthsOf(s.n, "default")) {
		f.Default, f.Has = worth.Text, true
	}
	for _, worth := range first(worthsOf(s.n, "json_name")) {
		f.Json = worth.Text
	}
	return f
}

func first[T any](l []T, _ []T) []T { return l }

func modelEnum(s spot) api.Enum {
	return api.Enum{Name: s.n.Text, Values: each(spread(s.n.Kids), func(s spot) api.Value {
		return api.Value{Name: s.n.Text, Number: s.n.N}
	}, api.KValue)}
}

func modelService(s spot) api.Service {
	return api.Service{Name: s.n.Text, Methods: each(spread(s.n.Kids), func(s spot) api.Method {
		return api.Method{Name: s.n.Text, In: s.n.Kids[0].Text, Out: s.n.Kids[1].Text, Client: s.n.A == 1 || s.n.A == 3, Server: s.n.A >= 2}
	}, api.KRpc)}
}

// lists says which lists a kind of part comes into, by the kind of what it stands in: "kind in kind: number of the list, what its options are of".
const lists = `5 in 1: 4 Message, 6 in 1: 5 Enum, 8 in 1: 6 Service, 9 in 7 in 1: 7 Field,
	9 in 5: 2 Field, 10 in 5: 2 Field, 9 in 11 in 5: 2 Field, 5 in 5: 3 Message, 6 in 5: 4 Enum, 9 in 7 in 5: 6 Field, 11 in 5: 8 Oneof,
	16 in 6: 2 EnumValue, 17 in 8: 2 Method`

// listOf answers the list into which a part comes, 0 of none, and what its options are of.
func listOf(s spot, in int) (int, string) {
	key := strconv.Itoa(s.n.Kind) + " in "
	if s.extendee != "" {
		key += "7 in "
	}
	if s.oneof != 0 {
		key += "11 in "
	}
	key += strconv.Itoa(in)
	for row := range strings.SplitSeq(lists, ",") {
		if said, answer, _ := strings.Cut(strings.TrimSpace(row), ": "); said == key {
			number, of, _ := strings.Cut(answer, " ")
			list, _ := strconv.Atoi(number)
			return list, of
		}
	}
	return 0, ""
}

// modelAsked answers what a part asks, and what all in it does.
func modelAsked(s spot, of string, path []int) []api.Asked {
	var l []api.Asked
	for _, kid := range s.n.Kids {
		if kid.Kind == api.KOption && !(of == "Field" && isOwn(kid, "default", "json_name")) {
			l = append(l, api.Asked{Path: path, Of: of, Opt: kid})
		}
	}
	if s.n.Kind == api.KOneof {
		return l // what stands in it is spread out behind it
	}
	counts := map[int]int{}
	for _, inner := range spread(s.n.Kids) {
		list, of := listOf(inner, s.n.Kind)
		if list == 0 {
			continue
		}
		l = append(l, modelAsked(inner, of, slices.Concat(path, []int{list, counts[list]}))...)
		counts[list]++
		if inner.n.Kind == api.KMap {
			counts[3]++
		}
	}
	return l
}

// holdModel holds File against the model, on a tree that may be.
func holdModel(t *testing.T, n api.Node) api.Errno {
	t.Helper()
	n = leveled(n)
	before := padded(n)
	given := padded(n)
	f, asked, at, err := lower.File(given, "path")
	if !reflect.DeepEqual(given, before) || !reflect.DeepEqual(behind(given), behind(before)) {
		t.Fatalf("%+v has become %+v", before, given)
	}
	var wrong fault
	if l := faults(n.Kids, n.Text); len(l) > 0 {
		wrong = l[0]
	}
	if err != wrong.err || at != wrong.at {
		t.Fatalf("%s: %d at %d, want %d at %d", shown(n), err, at, wrong.err, wrong.at)
	}
	if err != api.OK {
		if !reflect.DeepEqual(f, api.File{}) || asked != nil {
			t.Fatalf("beside the error %d: %+v, %+v", err, f, asked)
		}
		return err
	}
	if want := modelFile(n, "path"); !desc.Same(f, want) {
		t.Fatalf("%s\nis  %+v\nnot %+v", shown(n), f, want)
	}
	if want := modelAsked(spot{n: n}, "File", nil); !reflect.DeepEqual(asked, want) {
		t.Fatalf("%s\nasks %+v\nnot  %+v", shown(n), asked, want)
	}
	return err
}

func shown(n api.Node) string {
	s, _ := show.File(n)
	return s
}

// leveled answers a copy of n with nil for each empty list.
func leveled(n api.Node) api.Node {
	var kids []api.Node
	for _, kid := range n.Kids {
		kids = append(kids, leveled(kid))
	}
	n.Kids = kids
	return n
}

// padded answers a copy of n with a node behind the end of each list, which nobody may see.
func padded(n api.Node) api.Node {
	if len(n.Kids) == 0 {
		return n
	}
	kids := make([]api.Node, len(n.Kids)+1)
	for i, kid := range n.Kids {
		kids[i] = padded(kid)
	}
	kids[len(n.Kids)] = api.Node{Kind: api.KOption, Text: "behind"}
	n.Kids = kids[:len(n.Kids)]
	return n
}

// behind answers all that stands behind the ends of lists.
func behind(n api.Node) []api.Node {
	l := slices.Clone(n.Kids[len(n.Kids):cap(n.Kids)])
	for _, kid := range n.Kids {
		l = append(l, behind(kid)...)
	}
	return l
}

// grower makes trees that may be, by chance that is the same each time.
type grower struct {
	*rand.Rand
	left   int // about how many nodes more
	faulty int // one of so many fields is wrong, where it can be
}

func (g *grower) of(words ...string) string { return words[g.IntN(len(words))] }

func (g *grower) rare() bool { return g.IntN(g.faulty) == 0 }

func (g *grower) ident() string {
	return g.of("a", "_a", "X_a", "XX_a", "__a", "b", "foo_bar", "_", "x1", "option", "A_b_", "m_Entry")
}

func (g *grower) named() string { return g.of("A", ".a", "a.b", ".int32", "c.D.e") }

func (g *grower) word() string { return g.of(strings.Fields(plain)...) }

func (g *grower) typ() api.Node {
	return api.Node{Kind: api.KType, Text: g.of(g.word(), g.word(), g.named())}
}

// some answers up to most nodes, fewer where there are many already.
func (g *grower) some(most int, grow func() api.Node) []api.Node {
	var l []api.Node
	for range g.IntN(most + 1) {
		if g.left <= 0 {
			break
		}
		g.left--
		l = append(l, grow())
	}
	return l
}

func (g *grower) worth() api.Node {
	kind := []int{api.KInt, api.KIdent, api.KString, api.KAggr}[g.IntN(4)]
	n := api.Node{Kind: kind}
	switch kind {
	case api.KInt:
		n.Text = g.of("0", "1", "-1", "2147483647", "2147483648", "-2147483648", "-2147483649", "4294967295", "4294967296", "9223372036854775808", "-9223372036854775808", "18446744073709551615")
	case api.KIdent:
		n.Text = g.of("true", "false", "A", "inf")
	case api.KString:
		n.Text = g.of("", "a", "\xff", "true", "1")
	case api.KAggr:
		n.Kids = g.some(2, func() api.Node {
			return api.Node{Kind: api.KEntry, Text: "e", Kids: []api.Node{{Kind: api.KInt, Text: "5"}}}
		})
	}
	return n
}

func (g *grower) option() api.Node {
	part := func() api.Node {
		return api.Node{Kind: api.KPart, Text: g.of("default", "json_name", "a", "b"), A: g.IntN(2)}
	}
	return own(append(g.some(2, part), part(), g.worth())...)
}

func own(kids ...api.Node) api.Node { return api.Node{Kind: api.KOption, Kids: kids} }

// fieldOption answers an option of a field, which isn't wrong by itself unless by chance.
func (g *grower) fieldOption(may func(option api.Node) bool) api.Node {
	for {
		option := g.option()
		if g.IntN(3) > 0 {
			option = own(api.Node{Kind: api.KPart, Text: g.of("default", "json_name")}, g.worth())
		}
		if may(option) || g.rare() {
			return option
		}
	}
}

// optioned answers a field of some place with options.
func (g *grower) optioned(s spot) api.Node {
	for range g.IntN(4) {
		option := g.fieldOption(func(option api.Node) bool {
			tried := s
			tried.n.Kids = append(slices.Clone(s.n.Kids), option)
			_, options := worthsOf(tried.n, option.Kids[0].Text)
			again := len(options) > 1 && isOwn(option, "default", "json_name")
			return faultOf(tried, option) == api.OK && (!again || g.IntN(g.faulty) < 8)
		})
		s.n.Kids = append(s.n.Kids, option)
	}
	g.left -= len(s.n.Kids)
	return s.n
}

func (g *grower) field(syntax string, s spot) api.Node {
	s.n = api.Node{Kind: api.KField, Text: g.ident(), N: int64(g.IntN(1 << 31)), Kids: []api.Node{g.typ()}}
	if s.oneof == 0 {
		s.n.A = 1 + g.IntN(3)
		if syntax == "proto3" && g.IntN(2) == 0 || g.rare() {
			s.n.A = 0
		}
	}
	return g.optioned(s)
}

func (g *grower) options() []api.Node { return g.some(2, g.option) }

// mixed answers the lists' nodes, options among them.
func (g *grower) mixed(l []api.Node) []api.Node {
	l = slices.Concat(g.options(), l, g.options())
	g.Shuffle(len(l), func(i, k int) { l[i], l[k] = l[k], l[i] })
	if len(l) == 0 {
		return nil
	}
	return l
}

func (g *grower) part(syntax string, kind, deep int) api.Node {
	n := api.Node{Kind: kind, Text: g.ident()}
	switch kind {
	case api.KMessage:
		n.Kids = g.some(9, func() api.Node { return g.inMessage(syntax, deep-1) })
	case api.KEnum:
		n.Kids = g.mixed(g.some(3, func() api.Node {
			return api.Node{Kind: api.KValue, Text: "V", N: int64(int32(g.Uint32())), Kids: g.options()}
		}))
	case api.KService:
		n.Kids = g.mixed(g.some(3, func() api.Node {
			return api.Node{Kind: api.KRpc, Text: g.ident(), A: g.IntN(4), Kids: append([]api.Node{g.typ(), g.typ()}, g.options()...)}
		}))
	case api.KOneof:
		n.Kids = g.mixed(g.some(3, func() api.Node { return g.field(syntax, spot{oneof: 1}) }))
	case api.KExtend:
		n.Text = g.named()
		n.Kids = g.some(3, func() api.Node { return g.field(syntax, spot{extendee: n.Text}) })
	case api.KMap:
		n.N, n.Kids = int64(g.IntN(1<<31)), []api.Node{{Kind: api.KType, Text: g.word()}, g.typ()}
		return g.optioned(spot{n: n})
	case api.KField:
		return g.field(syntax, spot{})
	case api.KOption:
		return g.option()
	}
	return n
}

func (g *grower) inMessage(syntax string, deep int) api.Node {
	kinds := []int{api.KField, api.KField, api.KField, api.KMap, api.KOneof, api.KEnum, api.KExtend, api.KOption, api.KExtensions, api.KReserved, api.KMessage}
	kind := kinds[g.IntN(len(kinds))]
	span := func() api.Node {
		return api.Node{Kind: api.KRange, N: int64(g.IntN(1 << 31)), M: int64(g.IntN(1 << 31))}
	}
	switch {
	case kind == api.KExtensions || kind == api.KReserved && g.IntN(2) == 0:
		return api.Node{Kind: kind, Kids: append(g.some(2, span), span())}
	case kind == api.KReserved:
		return api.Node{Kind: kind, Kids: slices.Repeat([]api.Node{{Kind: api.KWord, Text: g.ident()}}, 1+g.IntN(2))}
	case kind == api.KMessage && deep < 0:
		return g.option()
	}
	return g.part(syntax, kind, deep)
}

func (g *grower) file() api.Node {
	n := api.Node{Kind: api.KFile, Text: g.of("", "proto2", "proto3", "proto3")}
	n.Kids = g.some(10, func() api.Node {
		kind := []int{api.KMessage, api.KMessage, api.KMessage, api.KEnum, api.KService, api.KExtend, api.KOption, api.KImport}[g.IntN(8)]
		if kind == api.KImport {
			return api.Node{Kind: kind, Text: g.of("", "a", "b/c"), A: g.IntN(2)}
		}
		return g.part(n.Text, kind, 4)
	})
	if g.IntN(2) == 0 {
		n.Kids = slices.Insert(n.Kids, g.IntN(len(n.Kids)+1), api.Node{Kind: api.KPackage, Text: g.of("p", "p.q.r")})
	}
	return n
}

// settle gives each node a place of its own, in no order.
func settle(g *rand.Rand, n *api.Node) {
	places := g.Perm(node.Count(*n))
	var down func(n *api.Node)
	down = func(n *api.Node) {
		n.At, places = places[0], places[1:]
		for i := range n.Kids {
			down(&n.Kids[i])
		}
	}
	down(n)
}

// sample answers a tree by chance.
func sample(seed uint64, size, faulty int) api.Node {
	g := &grower{rand.New(rand.NewPCG(seed, 13)), size, faulty}
	n := g.file()
	settle(g.Rand, &n)
	return n
}

// P13.1 on trees by chance, in which each error comes up, and each kind of part that is asked.
func TestModel(t *testing.T) {
	seen, asks := map[api.Errno]int{}, map[string]int{}
	for seed := range uint64(12000) {
		n := sample(seed, 1+int(seed%200), []int{20, 500, 1 << 30}[seed%3])
		if !node.Check(n) {
			t.Fatalf("the sample %d is none", seed)
		}
		seen[holdModel(t, n)]++
		_, asked, _, _ := lower.File(n, "")
		for _, a := range asked {
			asks[a.Of]++
		}
	}
	for _, err := range []api.Errno{api.OK, api.ErrLabel, api.ErrDefault, api.ErrTwice} {
		if seen[err] < 100 {
			t.Errorf("the error %d came up %d times: %v", err, seen[err], seen)
		}
	}
	for _, of := range strings.Fields("File Message Field Oneof Enum EnumValue Service Method") {
		if asks[of] < 500 {
			t.Errorf("asked of %s: %d times", of, asks[of])
		}
	}
}

// P3: a tree with lists that are empty comes to the same as one with none.
func TestEmpty(t *testing.T) {
	var down func(n api.Node) api.Node
	down = func(n api.Node) api.Node {
		kids := make([]api.Node, 0, 1)
		for _, kid := range n.Kids {
			kids = append(kids, down(kid))
		}
		n.Kids = kids
		return n
	}
	for seed := range uint64(500) {
		n := sample(seed, 100, 500)
		a, askedA, atA, errA := lower.File(n, "x")
		b, askedB, atB, errB := lower.File(down(n), "x")
		if !desc.Same(a, b) || !reflect.DeepEqual(askedA, askedB) || atA != atB || errA != errB {
			t.Fatalf("%s: %+v, %+v, %d at %d, and %+v, %+v, %d at %d", shown(n), a, askedA, errA, atA, b, askedB, errB, atB)
		}
	}
}

func FuzzSeed(f *testing.F) {
	for seed := range uint64(10) {
		f.Add(seed, uint16(100), uint8(50))
	}
	f.Fuzz(func(t *testing.T, seed uint64, size uint16, faulty uint8) {
		if n := sample(seed, int(size%3000), 1+int(faulty)*int(faulty)); node.Check(n) {
			holdModel(t, n)
		}
	})
}

func FuzzSource(f *testing.F) {
	f.Add(full)
	for seed := range uint64(20) {
		f.Add(shown(sample(seed, 60, 50)))
	}
	f.Fuzz(func(t *testing.T, s string) {
		if n, _, err := parse.File(s); err == api.OK {
			holdModel(t, n)
		}
	})
}
