package node_test

import (
	"fmt"
	"math"
	"math/big"
	"reflect"
	"regexp"
	"slices"
	"strings"
	"testing"
	"unsafe"

	"glossary/api"
	"glossary/node"
)

// words are the keywords, as chapter 6 lists them.
const words = "message enum extend extensions option oneof map reserved optional required repeated rpc service import package syntax stream returns to max public"

// types are the plain types, as chapter 6 lists them.
const types = "double float int32 int64 uint32 uint64 sint32 sint64 fixed32 fixed64 sfixed32 sfixed64 bool string bytes"

// mk answers a node with a kind, a text and kids.
func mk(kind int, text string, kids ...api.Node) api.Node {
	return api.Node{Kind: kind, Text: text, Kids: kids}
}

func file(kids ...api.Node) api.Node { return mk(api.KFile, "", kids...) }

func message(kids ...api.Node) api.Node { return mk(api.KMessage, "A", kids...) }

func typ(s string) api.Node { return mk(api.KType, s) }

// with answers n after it was changed.
func with(n api.Node, change func(n *api.Node)) api.Node {
	change(&n)
	return n
}

func field(kids ...api.Node) api.Node {
	return api.Node{Kind: api.KField, Text: "b", N: 1, A: api.LabelOptional, Kids: kids}
}

func plainField() api.Node { return field(typ("int32")) }

func option(worth api.Node) api.Node { return mk(api.KOption, "", mk(api.KPart, "o"), worth) }

func intOption() api.Node { return option(mk(api.KInt, "1")) }

func span(n, m int64) api.Node { return api.Node{Kind: api.KRange, N: n, M: m} }

func check(t *testing.T, what string, n api.Node, want bool) {
	t.Helper()
	if got := node.Check(n); got != want {
		t.Errorf("%.300s: Check is %v, want %v", what, got, want)
	}
}

// rich answers a tree with nodes of all kinds.
func rich() api.Node {
	doc := func(n api.Node) api.Node { n.Doc = " d\n"; return n }
	aggr := mk(api.KAggr, "",
		mk(api.KEntry, "x", mk(api.KInt, "-7")),
		api.Node{Kind: api.KEntry, Text: ".y.z", A: 1, Kids: []api.Node{mk(api.KAggr, "")}},
		mk(api.KEntry, "x", mk(api.KString, "\xff\n")))
	opt := mk(api.KOption, "", api.Node{Kind: api.KPart, Text: "y.opt", A: 1}, mk(api.KPart, "n"), aggr)
	enum := doc(mk(api.KEnum, "E",
		api.Node{Kind: api.KValue, Text: "Z", Kids: []api.Node{option(mk(api.KIdent, "true"))}},
		doc(api.Node{Kind: api.KValue, Text: "M", N: -1}), intOption()))
	maps := doc(api.Node{Kind: api.KMap, Text: "m", N: 2, Kids: []api.Node{typ("string"), typ("a.B"), intOption()}})
	one := doc(mk(api.KOneof, "o", api.Node{Kind: api.KField, Text: "c", N: 3, Kids: []api.Node{typ(".a.B")}}, intOption()))
	rpc := doc(api.Node{Kind: api.KRpc, Text: "R", A: 3, Kids: []api.Node{typ("A"), typ("A"), intOption()}})
	return mk(api.KFile, "proto3",
		api.Node{Kind: api.KImport, Text: "a/b.proto", A: 1}, mk(api.KImport, ""), mk(api.KPackage, "a.b"), opt,
		doc(message(doc(field(typ("int32"), intOption(), opt)), maps, message(), enum,
			mk(api.KExtend, ".a.B", plainField()), mk(api.KExtensions, "", span(5, 6), span(9, 7)),
			mk(api.KReserved, "", span(1, 1)), mk(api.KReserved, "", mk(api.KWord, "w"), mk(api.KWord, "w")), one, intOption())),
		enum, mk(api.KExtend, "B.C"), doc(mk(api.KService, "S", rpc, intOption())))
}

// walk calls see with each node of a tree.
func walk(n *api.Node, see func(n *api.Node)) {
	see(n)
	for i := range n.Kids {
		walk(&n.Kids[i], see)
	}
}

// clone answers n in memory of its own.
func clone(n api.Node) api.Node {
	n.Kids = slices.Clone(n.Kids)
	for i := range n.Kids {
		n.Kids[i] = clone(n.Kids[i])
	}
	return n
}

// letter tells a kid by one sign; fields without a label and plain types have signs of their own.
func letter(n api.Node) byte {
	const signs = "-FIPOMEXSlmoerRwvcTpnisay"
	switch {
	case n.Kind < 1 || n.Kind >= len(signs):
		return '-'
	case n.Kind == api.KField && n.A == 0:
		return 'f'
	case n.Kind == api.KType && slices.Contains(strings.Fields(types), n.Text):
		return 't'
	}
	return signs[n.Kind]
}

const (
	identOf = `[A-Za-z_][A-Za-z_0-9]*`
	fullOf  = identOf + `(\.` + identOf + `)*`
)

// row is what the chapter says of a kind: patterns of Text (by A) and of the kids' letters, the greatest length, bounds, other fields.
type row struct {
	texts     []string
	kids      string
	size      int
	low, high int64
	more      string // M, D: there are M, Doc
}

var rows = map[int]row{
	api.KFile:       {texts: []string{`(proto2|proto3)?`}, kids: `[IOMEXS]*P?[IOMEXS]*`, size: 6},
	api.KImport:     {texts: []string{`(?s:.*)`, `(?s:.*)`}, size: 1000},
	api.KPackage:    {texts: []string{fullOf}, size: 1000},
	api.KOption:     {texts: []string{``}, kids: `p+[nisa]`},
	api.KMessage:    {texts: []string{identOf}, kids: `[flmMEXeroO]*`, size: 200, more: "D"},
	api.KEnum:       {texts: []string{identOf}, kids: `[vO]*`, size: 200, more: "D"},
	api.KExtend:     {texts: []string{fullOf + `|\.` + fullOf}, kids: `[fl]*`, size: 1000},
	api.KService:    {texts: []string{identOf}, kids: `[cO]*`, size: 200, more: "D"},
	api.KField:      {texts: []string{identOf, identOf, identOf, identOf}, kids: `[tT]O*`, size: 200, high: 1<<31 - 1, more: "D"},
	api.KMap:        {texts: []string{identOf}, kids: `t[tT]O*`, size: 200, high: 1<<31 - 1, more: "D"},
	api.KOneof:      {texts: []string{identOf}, kids: `[fO]*`, size: 200, more: "D"},
	api.KExtensions: {texts: []string{``}, kids: `R+`},
	api.KReserved:   {texts: []string{``}, kids: `R+|w+`},
	api.KRange:      {texts: []string{``}, high: 1<<31 - 1, more: "M"},
	api.KWord:       {texts: []string{identOf}, size: 200},
	api.KValue:      {texts: []string{identOf}, kids: `O*`, size: 200, low: -1 << 31, high: 1<<31 - 1, more: "D"},
	api.KRpc:        {texts: []string{identOf, identOf, identOf, identOf}, kids: `[tT]{2}O*`, size: 200, more: "D"},
	api.KType:       {texts: []string{fullOf + `|\.` + fullOf}, size: 1000},
	api.KPart:       {texts: []string{identOf, `\.?` + fullOf}, size: 1000},
	api.KInt:        {texts: []string{`0|-?[1-9][0-9]*`}, size: 20},
	api.KIdent:      {texts: []string{identOf}, size: 200},
	api.KString:     {texts: []string{`(?s:.*)`}, size: 10000},
	api.KAggr:       {texts: []string{``}, kids: `y*`},
	api.KEntry:      {texts: []string{identOf, `\.?` + fullOf}, kids: `[nisa]`, size: 1000},
}

var patterns = map[string]*regexp.Regexp{}

func matches(pattern, s string) bool {
	p := patterns[pattern]
	if p == nil {
		p = regexp.MustCompile(`\A(?:` + pattern + `)\z`)
		patterns[pattern] = p
	}
	return p.MatchString(s)
}

// fits answers whether one node is as its kind's row says.
func fits(n api.Node) bool {
	r, known := rows[n.Kind]
	if !known || n.At < 0 || n.A < 0 || n.A >= len(r.texts) || n.N < r.low || n.N > r.high {
		return false
	}
	if n.M != 0 && (!strings.Contains(r.more, "M") || n.M < r.low || n.M > r.high) {
		return false
	}
	if n.Doc != "" && (!strings.Contains(r.more, "D") || n.Doc[len(n.Doc)-1] != 10 || len(n.Doc) > 10000) {
		return false
	}
	kids := ""
	for _, kid := range n.Kids {
		kids += string(letter(kid))
	}
	if !matches(r.kids, kids) || !matches(r.texts[n.A], n.Text) {
		return false
	}
	dotless := strings.TrimPrefix(n.Text, ".")
	if len(dotless) > r.size || r.texts[0] == identOf && n.A == 0 && len(n.Text) > 200 {
		return false
	}
	first, _, _ := strings.Cut(n.Text, ".")
	switch n.Kind {
	case api.KFile, api.KImport, api.KString:
		return len(n.Text) <= r.size
	case api.KInt:
		i, _ := new(big.Int).SetString(n.Text, 10)
		return i.IsInt64() || i.IsUint64()
	case api.KValue:
		return n.Text != "option" && n.Text != "reserved"
	case api.KType, api.KExtend:
		if slices.Contains(strings.Fields(types), n.Text) {
			return n.Kind == api.KType
		}
		if slices.Contains(strings.Fields(words+" "+types), first) {
			return false
		}
	}
	for _, name := range strings.Split(dotless, ".") {
		if len(name) > 200 {
			return false
		}
	}
	return true
}

// wanted answers what P7.1 says of a tree.
func wanted(n api.Node) bool {
	good, count := n.Kind == api.KFile, 0
	walk(&n, func(n *api.Node) {
		count++
		good = good && fits(*n)
	})
	return good && count <= 20000 && deep(n) <= 64
}

func deep(n api.Node) int {
	most := 0
	for _, kid := range n.Kids {
		most = max(most, deep(kid))
	}
	return most + 1
}

// hold holds all calls against what the chapter says of a tree.
func hold(t *testing.T, what string, n api.Node) bool {
	t.Helper()
	want, count, deepest := wanted(n), 0, deep(n)
	walk(&n, func(*api.Node) { count++ })
	if count > 20000 {
		count = 30000
	}
	if deepest > 64 {
		deepest = 100
	}
	check(t, what, n, want)
	if got := node.Count(n); got != count {
		t.Errorf("%s: Count is %d, want %d", what, got, count)
	}
	if got := node.Deep(n); got != deepest {
		t.Errorf("%s: Deep is %d, want %d", what, got, deepest)
	}
	if got := node.Same(n, clone(n)); got != (deepest <= 64) {
		t.Errorf("%s: Same as itself is %v", what, got)
	}
	return want
}

// P7.1, P7.2: the chapter's example.
func TestExample(t *testing.T) {
	hold(t, "a file without kids", file())
	if n := file(); !node.Check(n) || node.Count(n) != 1 || node.Deep(n) != 1 {
		t.Error("a file without kids")
	}
}

// P7.1: of each kind one that may be.
func TestRich(t *testing.T) {
	check(t, "rich", rich(), true)
	kinds := map[int]bool{}
	n := rich()
	walk(&n, func(n *api.Node) { kinds[n.Kind] = true })
	if len(kinds) != 24 {
		t.Errorf("of %d kinds", len(kinds))
	}
	if !hold(t, "rich", n) {
		t.Error("rich isn't taken by the tests themselves")
	}
}

// P7.1: a tree begins with a file, and has none within.
func TestFileFirst(t *testing.T) {
	n := rich()
	walk(&n, func(n *api.Node) {
		check(t, fmt.Sprint("the kind ", n.Kind, " first"), *n, n.Kind == api.KFile)
	})
	check(t, "no node", api.Node{}, false)
	check(t, "a file within", file(file()), false)
	check(t, "a file in a message", file(message(file())), false)
	for _, kind := range []int{-1, 0, 25, 26, 1000, math.MinInt, math.MaxInt} {
		check(t, "an unknown kind", mk(kind, ""), false)
		check(t, "an unknown kind within", file(mk(kind, "")), false)
		check(t, "an unknown kind deeper", file(message(mk(kind, "A"))), false)
		check(t, "an unknown kind as a worth", file(option(mk(kind, "A"))), false)
	}
}

// P7.1: which kinds stand in which, pair by pair.
func TestKidsByKind(t *testing.T) {
	allowed := map[int][]int{
		api.KFile:       {api.KPackage, api.KImport, api.KOption, api.KMessage, api.KEnum, api.KExtend, api.KService},
		api.KMessage:    {api.KField, api.KMap, api.KMessage, api.KEnum, api.KExtend, api.KExtensions, api.KReserved, api.KOneof, api.KOption},
		api.KEnum:       {api.KValue, api.KOption},
		api.KExtend:     {api.KField},
		api.KService:    {api.KRpc, api.KOption},
		api.KOneof:      {api.KField, api.KOption},
		api.KField:      {api.KOption},
		api.KMap:        {api.KOption},
		api.KRpc:        {api.KOption},
		api.KValue:      {api.KOption},
		api.KExtensions: {api.KRange},
		api.KReserved:   {api.KRange, api.KWord},
		api.KAggr:       {api.KEntry},
	}
	samples := map[int]api.Node{}
	n := rich()
	walk(&n, func(n *api.Node) { samples[n.Kind] = *n })
	samples[api.KField] = api.Node{Kind: api.KField, Text: "b", N: 1, Kids: []api.Node{typ("int32")}}
	samples[api.KReserved] = mk(api.KReserved, "", span(1, 1))
	for parent := api.KFile; parent <= api.KEntry; parent++ {
		for kid := api.KFile; kid <= api.KEntry; kid++ {
			want := slices.Contains(allowed[parent], kid)
			if parent == api.KReserved && kid == api.KWord || parent == api.KFile && kid == api.KPackage {
				want = false // there are ranges, and a package, already
			}
			n := rich()
			done := false
			put := func(n *api.Node) {
				if n.Kind == parent && !done {
					if n.Kind == api.KReserved {
						*n = clone(samples[api.KReserved])
					}
					n.Kids, done = append(slices.Clone(n.Kids), samples[kid]), true
				}
			}
			walk(&n, put)
			check(t, fmt.Sprintf("a kid %d more in a %d", kid, parent), n, want)
		}
	}
}

// P7.1: fields that a kind doesn't have are zero, of every node.
func TestNothingElse(t *testing.T) {
	has := func(kind int, kinds ...int) bool { return slices.Contains(kinds, kind) }
	tries := []struct {
		what   string
		change func(n *api.Node)
		may    func(n api.Node) bool
	}{
		{"N 1", func(n *api.Node) { n.N = 1 }, func(n api.Node) bool { return has(n.Kind, api.KField, api.KMap, api.KRange, api.KValue) }},
		{"N -1", func(n *api.Node) { n.N = -1 }, func(n api.Node) bool { return n.Kind == api.KValue }},
		{"M 1", func(n *api.Node) { n.M = 1 }, func(n api.Node) bool { return n.Kind == api.KRange }},
		{"M -1", func(n *api.Node) { n.M = -1 }, func(n api.Node) bool { return false }},
		{"A -1", func(n *api.Node) { n.A = -1 }, func(n api.Node) bool { return false }},
		{"A 4", func(n *api.Node) { n.A = 4 }, func(n api.Node) bool { return false }},
		{"A 1", func(n *api.Node) { n.A = 1 }, func(n api.Node) bool {
			return has(n.Kind, api.KImport, api.KField, api.KRpc, api.KPart, api.KEntry)
		}},
		{"A 2", func(n *api.Node) { n.A = 2 }, func(n api.Node) bool { return has(n.Kind, api.KField, api.KRpc) }},
		{"A 3", func(n *api.Node) { n.A = 3 }, func(n api.Node) bool { return has(n.Kind, api.KField, api.KRpc) }},
		{"At 1", func(n *api.Node) { n.At = 1 }, func(n api.Node) bool { return true }},
		{"At greatest", func(n *api.Node) { n.At = math.MaxInt }, func(n api.Node) bool { return true }},
		{"At -1", func(n *api.Node) { n.At = -1 }, func(n api.Node) bool { return false }},
		{"At least", func(n *api.Node) { n.At = math.MinInt }, func(n api.Node) bool { return false }},
		{"a Doc", func(n *api.Node) { n.Doc = "\n" }, func(n api.Node) bool {
			return has(n.Kind, api.KMessage, api.KEnum, api.KService, api.KField, api.KMap, api.KOneof, api.KValue, api.KRpc)
		}},
		{"a Doc without an end", func(n *api.Node) { n.Doc = "\nx" }, func(n api.Node) bool { return false }},
		{"no Doc", func(n *api.Node) { n.Doc = "" }, func(n api.Node) bool { return true }},
		{"a Text", func(n *api.Node) { n.Text = "x" }, func(n api.Node) bool {
			return !has(n.Kind, api.KFile, api.KOption, api.KExtensions, api.KReserved, api.KRange, api.KInt, api.KAggr)
		}},
		{"no Text", func(n *api.Node) { n.Text = "" }, func(n api.Node) bool {
			return has(n.Kind, api.KFile, api.KImport, api.KOption, api.KExtensions, api.KReserved, api.KRange, api.KString, api.KAggr)
		}},
		{"no kids", func(n *api.Node) { n.Kids = nil }, func(n api.Node) bool {
			return !has(n.Kind, api.KOption, api.KField, api.KMap, api.KRpc, api.KExtensions, api.KReserved, api.KEntry)
		}},
		{"an empty list of kids", func(n *api.Node) { n.Kids = []api.Node{} }, func(n api.Node) bool {
			return !has(n.Kind, api.KOption, api.KField, api.KMap, api.KRpc, api.KExtensions, api.KReserved, api.KEntry)
		}},
	}
	base := rich()
	count := node.Count(base)
	for _, try := range tries {
		for i := range count {
			n, at := clone(base), 0
			what, want, inOneof, inMap := "", false, false, false
			walk(&n, func(n *api.Node) {
				for k := range n.Kids {
					if at+1+offset(n.Kids, k) == i {
						inOneof, inMap = n.Kind == api.KOneof, n.Kind == api.KMap && k == 0
					}
				}
				if at++; at-1 != i {
					return
				}
				what, want = fmt.Sprintf("%s of a %d (%d)", try.what, n.Kind, i), try.may(*n)
				try.change(n)
				if inOneof && n.A != 0 || inMap && n.Text == "x" {
					want = false
				}
			})
			check(t, what, n, want)
			hold(t, what, n)
		}
	}
}

// offset answers how many nodes stand ahead of the kid k among these.
func offset(kids []api.Node, k int) int {
	n := 0
	for _, kid := range kids[:k] {
		n += node.Count(kid)
	}
	return n
}

// P7.1: KFile's Text, and one package at most.
func TestFile(t *testing.T) {
	for s, want := range map[string]bool{"": true, "proto2": true, "proto3": true, "proto": false, "proto1": false, "proto4": false, "Proto2": false, "proto2 ": false, " proto3": false, "proto2proto3": false, "editions": false} {
		check(t, "the syntax "+s, mk(api.KFile, s), want)
	}
	p, i := mk(api.KPackage, "a"), mk(api.KImport, "a")
	check(t, "one package", file(p), true)
	check(t, "a package last", file(i, message(), p), true)
	check(t, "two packages", file(p, p), false)
	check(t, "two packages apart", file(p, i, message(), p), false)
	check(t, "imports", file(i, p, i, message(), i), true)
}

// P7.1: an import's path, a text's bytes, a comment.
func TestLengths(t *testing.T) {
	for n, want := range map[int]bool{0: true, 1: true, 999: true, 1000: true, 1001: false, 1 << 20: false} {
		for _, sign := range []string{"a", "\xff", "\x00", "\n"} {
			check(t, fmt.Sprint("an import of ", n), file(mk(api.KImport, strings.Repeat(sign, n))), want)
		}
	}
	for n, want := range map[int]bool{0: true, 1: true, 9999: true, 10000: true, 10001: false, 1 << 20: false} {
		for _, sign := range []string{"a", "\xff", "\x00", "\n", `"`} {
			check(t, fmt.Sprint("a text of ", n), file(option(mk(api.KString, strings.Repeat(sign, n)))), want)
		}
	}
	for n, want := range map[int]bool{1: true, 2: true, 9999: true, 10000: true, 10001: false, 1 << 20: false} {
		for _, sign := range []string{"a", "\xff", "\x00", "\n", "\r"} {
			doc := strings.Repeat(sign, n-1)
			check(t, fmt.Sprint("a comment of ", n), file(with(message(), func(n *api.Node) { n.Doc = doc + "\n" })), want)
			if n > 1 && sign != "\n" {
				check(t, fmt.Sprint("a comment without its end, of ", n), file(with(message(), func(n *api.Node) { n.Doc = doc })), false)
			}
		}
	}
}

// P7.1: labels.
func TestLabels(t *testing.T) {
	for a := -2; a < 7; a++ {
		f := with(plainField(), func(n *api.Node) { n.A = a })
		rpc := api.Node{Kind: api.KRpc, Text: "R", A: a, Kids: []api.Node{typ("A"), typ("int32")}}
		check(t, fmt.Sprint("the label ", a), file(message(f)), a >= 0 && a <= 3)
		check(t, fmt.Sprint("the label in an extend ", a), file(mk(api.KExtend, "A", f)), a >= 0 && a <= 3)
		check(t, fmt.Sprint("the label in a oneof ", a), file(message(mk(api.KOneof, "o", f))), a == 0)
		check(t, fmt.Sprint("streams ", a), file(mk(api.KService, "S", rpc)), a >= 0 && a <= 3)
		check(t, fmt.Sprint("public ", a), file(api.Node{Kind: api.KImport, A: a}), a == 0 || a == 1)
	}
	check(t, "a label far off", file(message(with(plainField(), func(n *api.Node) { n.A = 1 << 32 }))), false)
}

// P7.1: the bounds of numbers.
func TestNumbers(t *testing.T) {
	for _, n := range []int64{math.MinInt64, -1<<32 + 1, -1<<31 - 1, -1 << 31, -1<<31 + 1, -1, 0, 1, 1<<29 - 1, 1 << 29, 1<<31 - 2, 1<<31 - 1, 1 << 31, 1<<32 - 1, 1 << 32, 1<<32 + 1, math.MaxInt64} {
		number := n >= 0 && n <= 1<<31-1
		what := fmt.Sprint("the number ", n)
		check(t, what, file(message(with(plainField(), func(f *api.Node) { f.N = n }))), number)
		check(t, what+" of a map", file(message(api.Node{Kind: api.KMap, Text: "m", N: n, Kids: []api.Node{typ("int32"), typ("A")}})), number)
		check(t, what+" of a value", file(mk(api.KEnum, "E", api.Node{Kind: api.KValue, Text: "V", N: n})), n >= -1<<31 && n <= 1<<31-1)
		for _, kind := range []int{api.KReserved, api.KExtensions} {
			check(t, what+" first of a range", file(message(mk(kind, "", span(n, 1)))), number)
			check(t, what+" last of a range", file(message(mk(kind, "", span(1, n)))), number)
			check(t, what+" of a second range", file(message(mk(kind, "", span(1, 1), span(n, n)))), number)
		}
	}
	check(t, "a range from above to below", file(message(mk(api.KReserved, "", span(9, 1)))), true)
}

// P7.1: ranges or words, one at least, not both.
func TestReserved(t *testing.T) {
	r, w := span(1, 2), mk(api.KWord, "w")
	tries := []struct {
		kids                 []api.Node
		reserved, extensions bool
	}{
		{nil, false, false},
		{[]api.Node{r}, true, true},
		{[]api.Node{r, r, r}, true, true},
		{[]api.Node{w}, true, false},
		{[]api.Node{w, w}, true, false},
		{[]api.Node{r, w}, false, false},
		{[]api.Node{w, r}, false, false},
		{[]api.Node{r, r, w}, false, false},
		{[]api.Node{mk(api.KIdent, "w")}, false, false},
		{[]api.Node{mk(api.KString, "w")}, false, false},
	}
	for i, try := range tries {
		check(t, fmt.Sprint("reserved ", i), file(message(mk(api.KReserved, "", try.kids...))), try.reserved)
		check(t, fmt.Sprint("extensions ", i), file(message(mk(api.KExtensions, "", try.kids...))), try.extensions)
	}
}

// P7.1: types and options of fields, maps and rpcs.
func TestTyped(t *testing.T) {
	p, n, o := typ("int32"), typ("A"), intOption()
	tries := []struct {
		kids          []api.Node
		one, map_, by bool // as a field's, a map's, an rpc's
	}{
		{nil, false, false, false},
		{[]api.Node{p}, true, false, false},
		{[]api.Node{n}, true, false, false},
		{[]api.Node{p, n}, false, true, true},
		{[]api.Node{p, p}, false, true, true},
		{[]api.Node{n, p}, false, false, true},
		{[]api.Node{n, n}, false, false, true},
		{[]api.Node{p, n, p}, false, false, false},
		{[]api.Node{p, o}, true, false, false},
		{[]api.Node{p, o, o}, true, false, false},
		{[]api.Node{p, n, o}, false, true, true},
		{[]api.Node{p, n, o, o}, false, true, true},
		{[]api.Node{n, n, o, o, o}, false, false, true},
		{[]api.Node{o}, false, false, false},
		{[]api.Node{o, p}, false, false, false},
		{[]api.Node{o, p, n}, false, false, false},
		{[]api.Node{p, o, n}, false, false, false},
		{[]api.Node{p, n, o, p}, false, false, false},
		{[]api.Node{o, o, o}, false, false, false},
	}
	for i, try := range tries {
		check(t, fmt.Sprint("a field's kids ", i), file(message(field(try.kids...))), try.one)
		check(t, fmt.Sprint("a map's kids ", i), file(message(mk(api.KMap, "m", try.kids...))), try.map_)
		check(t, fmt.Sprint("an rpc's kids ", i), file(mk(api.KService, "S", mk(api.KRpc, "R", try.kids...))), try.by)
	}
	for _, s := range append(strings.Fields(types), "A", ".A", "a.B", "Int32", "a.int32") {
		check(t, "the key "+s, file(message(mk(api.KMap, "m", typ(s), typ("A")))), slices.Contains(strings.Fields(types), s))
		check(t, "the worth "+s, file(message(mk(api.KMap, "m", typ("bool"), typ(s)))), true)
	}
}

// P7.1: parts, then one worth.
func TestOptions(t *testing.T) {
	p, i := mk(api.KPart, "p"), mk(api.KInt, "1")
	e := mk(api.KEntry, "e", i)
	for what, try := range map[string]struct {
		kids  []api.Node
		taken bool
	}{
		"nothing":                     {nil, false},
		"a part":                      {[]api.Node{p}, false},
		"a worth":                     {[]api.Node{i}, false},
		"both":                        {[]api.Node{p, i}, true},
		"three parts":                 {[]api.Node{p, p, p, i}, true},
		"three parts alone":           {[]api.Node{p, p, p}, false},
		"two worths":                  {[]api.Node{p, i, i}, false},
		"a worth first":               {[]api.Node{i, p}, false},
		"a worth between":             {[]api.Node{p, i, p, i}, false},
		"a word":                      {[]api.Node{p, mk(api.KIdent, "x")}, true},
		"a text":                      {[]api.Node{p, mk(api.KString, "")}, true},
		"an aggregate":                {[]api.Node{p, mk(api.KAggr, "")}, true},
		"an aggregate of some":        {[]api.Node{p, mk(api.KAggr, "", e, e)}, true},
		"an entry":                    {[]api.Node{p, e}, false},
		"an aggregate of no entry":    {[]api.Node{p, mk(api.KAggr, "", i)}, false},
		"an aggregate of an option":   {[]api.Node{p, mk(api.KAggr, "", intOption())}, false},
		"an entry of nothing":         {[]api.Node{p, mk(api.KAggr, "", mk(api.KEntry, "e"))}, false},
		"an entry of two":             {[]api.Node{p, mk(api.KAggr, "", mk(api.KEntry, "e", i, i))}, false},
		"an entry of an entry":        {[]api.Node{p, mk(api.KAggr, "", mk(api.KEntry, "e", e))}, false},
		"an entry of a part":          {[]api.Node{p, mk(api.KAggr, "", mk(api.KEntry, "e", p))}, false},
		"an entry of an aggregate":    {[]api.Node{p, mk(api.KAggr, "", mk(api.KEntry, "e", mk(api.KAggr, "", e)))}, true},
		"a number that is none":       {[]api.Node{p, mk(api.KInt, "01")}, false},
		"an entry of no number":       {[]api.Node{p, mk(api.KAggr, "", mk(api.KEntry, "e", mk(api.KInt, "x")))}, false},
		"a type for a worth":          {[]api.Node{p, typ("A")}, false},
		"a range for a worth":         {[]api.Node{p, span(1, 1)}, false},
		"a kind beyond for a worth":   {[]api.Node{p, mk(25, "x")}, false},
		"a kind below for the part":   {[]api.Node{mk(-1, "x"), i}, false},
		"a word in place of the part": {[]api.Node{mk(api.KIdent, "x"), i}, false},
	} {
		o := mk(api.KOption, "", try.kids...)
		check(t, what, file(o), try.taken)
		check(t, what+" of a field", file(message(field(typ("int32"), o))), try.taken)
		check(t, what+" of a value", file(mk(api.KEnum, "E", mk(api.KValue, "V", o))), try.taken)
	}
}

// taken answers of each way to name something whether s may stand there.
func taken(s string) map[string]bool {
	i := mk(api.KInt, "1")
	part := func(a int) api.Node {
		return file(mk(api.KOption, "", api.Node{Kind: api.KPart, Text: s, A: a}, i))
	}
	entry := func(a int) api.Node {
		return file(option(mk(api.KAggr, "", api.Node{Kind: api.KEntry, Text: s, A: a, Kids: []api.Node{i}})))
	}
	return map[string]bool{
		"message": node.Check(file(mk(api.KMessage, s))),
		"enum":    node.Check(file(mk(api.KEnum, s))),
		"service": node.Check(file(mk(api.KService, s))),
		"field":   node.Check(file(message(with(plainField(), func(n *api.Node) { n.Text = s })))),
		"map":     node.Check(file(message(mk(api.KMap, s, typ("int32"), typ("A"))))),
		"oneof":   node.Check(file(message(mk(api.KOneof, s)))),
		"value":   node.Check(file(mk(api.KEnum, "E", mk(api.KValue, s)))),
		"rpc":     node.Check(file(mk(api.KService, "S", mk(api.KRpc, s, typ("A"), typ("A"))))),
		"ident":   node.Check(file(option(mk(api.KIdent, s)))),
		"word":    node.Check(file(message(mk(api.KReserved, "", mk(api.KWord, s))))),
		"part":    node.Check(part(0)),
		"entry":   node.Check(entry(0)),
		"package": node.Check(file(mk(api.KPackage, s))),
		"part 1":  node.Check(part(1)),
		"entry 1": node.Check(entry(1)),
		"type":    node.Check(file(message(field(typ(s))))),
		"extend":  node.Check(file(mk(api.KExtend, s))),
	}
}

// named holds what is taken of s: as a name, a package, a name in brackets, a type, what is extended.
func named(t *testing.T, s string, ident, full, ref, typ, extend bool) {
	t.Helper()
	for what, got := range taken(s) {
		want := ident
		switch what {
		case "value":
			want = ident && s != "option" && s != "reserved"
		case "package":
			want = full
		case "part 1", "entry 1":
			want = ref
		case "type":
			want = typ
		case "extend":
			want = extend
		}
		if got != want {
			t.Errorf("%.300q as a %s: %v, want %v", s, what, got, want)
		}
	}
}

// P7.1: names.
func TestNames(t *testing.T) {
	for _, s := range []string{"a", "_", "A9", "true", "syntax2", "group", "messages", "Int32"} {
		named(t, s, true, true, true, true, true)
		named(t, "."+s, false, false, true, true, true)
	}
	for _, s := range strings.Fields(words) {
		named(t, s, true, true, true, false, false)
		named(t, "."+s, false, false, true, true, true)
		named(t, s+".a", false, true, true, false, false)
		named(t, "a."+s, false, true, true, true, true)
		named(t, "."+s+".a", false, false, true, true, true)
	}
	for _, s := range strings.Fields(types) {
		named(t, s, true, true, true, true, false)
		named(t, "."+s, false, false, true, true, true)
		named(t, s+".a", false, true, true, false, false)
		named(t, "a."+s, false, true, true, true, true)
		named(t, s+"."+s, false, true, true, false, false)
		named(t, "."+s+".a", false, false, true, true, true)
	}
	for _, s := range []string{"a.b", "a.b.c", "_._"} {
		named(t, s, false, true, true, true, true)
		named(t, "."+s, false, false, true, true, true)
	}
	for _, s := range []string{"", ".", "..", "..a", "a.", "a..b", "1", "1a", "a b", " a", "a ", "a-b", "ä", "a\x00", "\xff", "a.1", ".1", "(a)", "[a]", "a/b", "int32 ", " int32", ".a.", "..int32"} {
		named(t, s, false, false, false, false, false)
	}
}

// P7.1: names have at most 200 bytes, full ones 1000, and a dot ahead counts for nothing.
func TestNamesLong(t *testing.T) {
	for n := 195; n < 206; n++ {
		s, fits := strings.Repeat("a", n), n <= 200
		named(t, s, fits, fits, fits, fits, fits)
		named(t, "."+s, false, false, fits, fits, fits)
	}
	for n := 90; n < 111; n++ {
		s, fits := strings.Repeat(strings.Repeat("a", 99)+".", 9)+strings.Repeat("b", n), n <= 100
		named(t, s, false, fits, fits, fits, fits)
		named(t, "."+s, false, false, fits, fits, fits)
	}
}

// nest answers a valid tree of that depth.
func nest(depth int) api.Node {
	n := message()
	for range depth - 2 {
		n = message(n)
	}
	return file(n)
}

// aggrs answers a tree of a depth that options make, which must be odd.
func aggrs(depth int) api.Node {
	n := mk(api.KInt, "1")
	for d := depth; d > 3; d -= 2 {
		n = mk(api.KAggr, "", mk(api.KEntry, "e", n))
	}
	return file(option(n))
}

// P7.1, P7.2, P7.3: 64 nodes within one another, and no more.
func TestDeep(t *testing.T) {
	for depth := 2; depth < 140; depth++ {
		n, want := nest(depth), depth
		if depth > 64 {
			want = 100
		}
		if got := node.Deep(n); got != want {
			t.Errorf("Deep of %d is %d", depth, got)
		}
		check(t, fmt.Sprint("the depth ", depth), n, depth <= 64)
		if got := node.Same(n, n); got != (depth <= 64) {
			t.Errorf("Same of the depth %d is %v", depth, got)
		}
		if got := node.Same(n, nest(depth+1)); got {
			t.Errorf("Same of the depths %d and one more", depth)
		}
		if depth%2 == 1 {
			hold(t, fmt.Sprint("aggregates of the depth ", depth), aggrs(depth))
		}
		// The deepest need be neither the first nor the last.
		n.Kids = []api.Node{message(), n.Kids[0], message(message())}
		if got := node.Deep(n); got != max(want, 3) {
			t.Errorf("Deep among others of %d is %d", depth, got)
		}
		check(t, fmt.Sprint("among others, the depth ", depth), n, depth <= 64)
	}
}

// P7.1, P7.2: 20,000 nodes, and no more.
func TestCount(t *testing.T) {
	for _, count := range []int{1, 2, 3, 100, 19999, 20000, 20001, 20002, 29999, 30000, 30001, 100000} {
		flat := file()
		for range count - 1 {
			flat.Kids = append(flat.Kids, message())
		}
		in := file(mk(api.KMessage, "A", flat.Kids...))
		for what, n := range map[string]api.Node{"flat": flat, "in a message": in} {
			want := count
			if what != "flat" {
				want++
			}
			check(t, fmt.Sprint(want, " nodes ", what), n, want <= 20000)
			if want > 20000 {
				want = 30000
			}
			if got := node.Count(n); got != want {
				t.Errorf("Count of %d nodes %s is %d", want, what, got)
			}
			if !node.Same(n, n) {
				t.Errorf("Same of %d nodes %s", want, what)
			}
		}
		if got := node.Of(flat, api.KMessage); len(got) != count-1 {
			t.Errorf("Of %d kids: %d", count-1, len(got))
		}
	}
	two := file(message())
	for range 2 {
		two.Kids = append(two.Kids, two.Kids...)
	}
	if got := node.Count(file(two, two)); got != 11 {
		t.Errorf("Count of two trees: %d", got)
	}
}

// P7.2: a node counts whatever it is.
func TestCountAny(t *testing.T) {
	for _, n := range []api.Node{{}, {Kind: -1}, {Kind: 99, Text: "x"}} {
		if node.Count(n) != 1 || node.Deep(n) != 1 {
			t.Errorf("%v: %d, %d", n, node.Count(n), node.Deep(n))
		}
		n.Kids = []api.Node{n, {Kids: []api.Node{n}}}
		if node.Count(n) != 4 || node.Deep(n) != 3 {
			t.Errorf("%v: %d, %d", n, node.Count(n), node.Deep(n))
		}
	}
}

// chain answers a message within a message, and so on, so many in all.
func chain(depth int) api.Node {
	n := message()
	for range depth - 1 {
		n = message(n)
	}
	return n
}

// P1: lists that stand within themselves, chains that are very deep.
func TestEnds(t *testing.T) {
	for _, wide := range []int{1, 2, 5, 100} {
		kids := make([]api.Node, wide)
		for i := range kids {
			kids[i] = api.Node{Kind: api.KMessage, Text: "A", Kids: kids}
		}
		n := api.Node{Kind: api.KFile, Kids: kids}
		if node.Check(n) || node.Count(n) != 30000 || node.Deep(n) != 100 || node.Same(n, n) {
			t.Errorf("a list of %d within itself", wide)
		}
		if got := node.Of(n, api.KMessage); len(got) != wide || got[wide-1].Text != "A" {
			t.Errorf("Of a list of %d within itself: %d", wide, len(got))
		}
	}
	n := file(chain(1 << 16))
	if node.Check(n) || node.Count(n) != 30000 || node.Deep(n) != 100 || node.Same(n, n) {
		t.Error("a chain")
	}
	got, depth := node.Of(n, api.KMessage), 0
	for ; len(got) == 1; got = got[0].Kids {
		depth++
	}
	if depth != 1<<16 || len(got) != 0 {
		t.Errorf("Of a chain: %d", depth)
	}
	// A list that begins where another does is another one, if it has not its length.
	kids := make([]api.Node, 2)
	kids[0] = message()
	kids[1] = mk(api.KMessage, "B", kids[:1]...)
	if got := node.Of(api.Node{Kids: kids}, api.KMessage); len(got) != 2 || len(got[1].Kids) != 1 || !node.Same(got[1].Kids[0], message()) {
		t.Errorf("lists with one beginning: %v", got)
	}
	outer := mk(api.KFile, "", mk(api.KMessage, "C", kids...))
	if got := node.Of(outer, api.KMessage); len(got) != 1 || len(got[0].Kids) != 2 || len(got[0].Kids[1].Kids) != 1 {
		t.Errorf("lists with one beginning, within: %v", got)
	}
	// One list may stand in two places.
	twice := []api.Node{message(plainField())}
	both := file(mk(api.KMessage, "A", twice...), mk(api.KMessage, "B", twice...), mk(api.KMessage, "C", mk(api.KMessage, "D", twice...), mk(api.KMessage, "E", twice...)))
	if got := (api.Node{Kind: api.KFile, Kids: node.Of(both, api.KMessage)}); !node.Same(got, both) {
		t.Errorf("a list in two places: %v", got)
	}
}

// ring answers a list of so many messages, each of which has a list like it, the last of these being the first again.
func ring(period, wide int) []api.Node {
	lists := make([][]api.Node, period)
	for i := range lists {
		lists[i] = make([]api.Node, wide)
	}
	for i, l := range lists {
		for k := range l {
			l[k] = api.Node{Kind: api.KMessage, Text: "A", Kids: lists[(i+1)%period]}
		}
	}
	return lists[0]
}

// tower answers a list of two messages, each of which has a list like it, so many lists in all; apart says that the two lists of one storey are two.
func tower(storeys int, apart bool) []api.Node {
	left, right := []api.Node{message(), message()}, []api.Node{message(), message()}
	for range storeys - 1 {
		if !apart {
			right = left
		}
		kids := []api.Node{mk(api.KMessage, "A", left...), mk(api.KMessage, "A", right...)}
		left, right = kids, slices.Clone(kids)
	}
	return left
}

// holdAlike holds that Of answers of lists that read alike what reads alike.
func holdAlike(t *testing.T, what string, a, b []api.Node) {
	t.Helper()
	x, y := node.Of(api.Node{Kind: api.KFile, Kids: a}, api.KMessage), node.Of(api.Node{Kind: api.KFile, Kids: b}, api.KMessage)
	if len(x) != len(a) || !reflect.DeepEqual(x, y) {
		t.Errorf("%s: Of answers %d nodes of the one, %d of the other, or they differ", what, len(x), len(y))
	}
}

// P7.4, P3: what Of answers hangs on what the nodes read, not on where their lists lie.
func TestOfAlike(t *testing.T) {
	for period := 2; period < 7; period++ {
		for wide := 1; wide < 5; wide++ {
			holdAlike(t, fmt.Sprint("rings of ", period, ", wide ", wide), ring(1, wide), ring(period, wide))
			whole := ring(period, wide+1)
			for i := range whole {
				whole[i].Kids[wide-1].Kids = whole[:wide]
			}
			holdAlike(t, fmt.Sprint("rings of pieces of lists ", period, ", wide ", wide), whole, slices.Clone(whole))
		}
	}
	for _, storeys := range []int{1, 2, 3, 10, 40, 60} {
		holdAlike(t, fmt.Sprint("towers of ", storeys), tower(storeys, false), tower(storeys, true))
	}
	// A ring that a finite tree leads to.
	holdAlike(t, "rings farther down", []api.Node{message(ring(1, 2)...)}, []api.Node{message(ring(3, 2)...)})
	holdAlike(t, "a ring and its second list", ring(1, 1), ring(2, 1)[0].Kids)
}

// P7.4, P1: trees within the bounds come whole, however their lists lie; of others at least the kids come.
func TestOfBounds(t *testing.T) {
	of := func(kids ...api.Node) []api.Node { return node.Of(file(kids...), api.KMessage) }
	both := of(tower(14, false)...)
	count := 0
	for i := range both {
		walk(&both[i], func(*api.Node) { count++ })
	}
	if count != 1<<15-2 {
		t.Errorf("Of a tower of 14 has %d nodes", count)
	}
	if got := of(mk(api.KMessage, "A", make([]api.Node, 100000)...)); len(got) != 1 || len(got[0].Kids) != 100000 {
		t.Error("Of a message of 100000 kids")
	}
	far := chain(1<<16 + 1)
	for what, kid := range map[string]api.Node{
		"a chain beyond the bound": far,
		"a tower of 60":            message(tower(60, true)...),
		"texts beyond the bound":   message(slices.Repeat([]api.Node{mk(api.KMessage, strings.Repeat("a", 1<<20))}, 1<<11)...),
		"Docs beyond the bound":    message(slices.Repeat([]api.Node{{Doc: strings.Repeat("a", 1<<20)}}, 1<<11)...),
		"a ring with a long text":  message(with(mk(api.KMessage, strings.Repeat("a", 1<<20)), func(n *api.Node) { n.Kids = ring(1, 2) })),
	} {
		kid.N, kid.M, kid.A, kid.At, kid.Doc = 1, 2, 3, 4, "x"
		want := kid
		want.Kids = nil
		if got := of(message(), kid, mk(api.KEnum, "E")); len(got) != 2 || !reflect.DeepEqual(got[1], want) {
			t.Errorf("%s: Of answers %d kids", what, len(got))
		}
		// What isn't asked for doesn't count.
		if got := node.Of(file(kid, mk(api.KEnum, "E", message())), api.KEnum); len(got) != 1 || len(got[0].Kids) != 1 {
			t.Errorf("%s beside: %v", what, got)
		}
	}
}

// P7.3: every field but At makes a difference, in every node.
func TestSame(t *testing.T) {
	base := rich()
	if !node.Same(base, rich()) || !node.Same(api.Node{}, api.Node{}) || node.Same(base, api.Node{}) {
		t.Fatal("rich")
	}
	count := node.Count(base)
	tries := map[string]func(n *api.Node){
		"Kind": func(n *api.Node) { n.Kind++ },
		"Text": func(n *api.Node) { n.Text += "x" },
		"N":    func(n *api.Node) { n.N += 1 << 40 },
		"M":    func(n *api.Node) { n.M-- },
		"A":    func(n *api.Node) { n.A ^= 1 },
		"At":   func(n *api.Node) { n.At -= 5 },
		"Doc":  func(n *api.Node) { n.Doc += "\n" },
		"more": func(n *api.Node) { n.Kids = append(n.Kids, api.Node{}) },
		"less": func(n *api.Node) {
			if len(n.Kids) > 0 {
				n.Kids = n.Kids[:len(n.Kids)-1]
			} else {
				n.Kids = []api.Node{{}}
			}
		},
	}
	for what, change := range tries {
		for i := range count {
			n, at := clone(base), 0
			walk(&n, func(n *api.Node) {
				if at++; at == i+1 {
					change(n)
				}
			})
			want := what == "At"
			if node.Same(base, n) != want || node.Same(n, base) != want {
				t.Errorf("%s of the node %d: Same is not %v", what, i, want)
			}
		}
	}
}

// P7.3: the order of kids tells; a nil list doesn't, nor that nodes may not be.
func TestSameKids(t *testing.T) {
	a, b := message(), mk(api.KMessage, "B")
	if node.Same(file(a, b), file(b, a)) || node.Same(file(a), file(a, a)) || node.Same(file(), file(a)) {
		t.Error("other kids are the same")
	}
	if !node.Same(api.Node{Kids: []api.Node{}}, api.Node{}) || !node.Same(api.Node{}, api.Node{Kids: make([]api.Node, 0, 4)}) {
		t.Error("an empty list isn't a nil one")
	}
	odd := api.Node{Kind: -7, N: -1, M: -1, A: -1, At: -1, Doc: "x", Kids: []api.Node{{Kind: 99}}}
	if !node.Same(odd, clone(odd)) {
		t.Error("odd nodes aren't the same")
	}
	if behind := []api.Node{a, b}; !node.Same(mk(api.KFile, "", behind[:1]...), file(a)) {
		t.Error("what lies behind the length is read")
	}
}

// P7.4: kids of a kind, in order, with all that they have.
func TestOf(t *testing.T) {
	n := rich()
	for kind := -1; kind < 27; kind++ {
		walk(&n, func(n *api.Node) {
			var want []api.Node
			for _, kid := range n.Kids {
				if kid.Kind == kind {
					want = append(want, kid)
				}
			}
			got := node.Of(*n, kind)
			if len(got) != len(want) || len(got) > 0 && !reflect.DeepEqual(got, want) {
				t.Errorf("Of(%d, %d) is %v, want %v", n.Kind, kind, got, want)
			}
		})
	}
	kids := []api.Node{{Kind: 7, Text: "a", At: 3}, {Kind: 8}, {Kind: 7, Text: "b", Doc: "x", N: -1, M: 5, A: 9}, {Kind: 7, Text: "a", At: -1}}
	if got := node.Of(api.Node{Kind: -5, Kids: kids}, 7); !reflect.DeepEqual(got, []api.Node{kids[0], kids[2], kids[3]}) {
		t.Errorf("Of odd nodes: %v", got)
	}
	if got := node.Of(api.Node{Kind: 7, Kids: kids[:2]}, 7); !reflect.DeepEqual(got, kids[:1]) {
		t.Errorf("Of reads behind the length, or the node itself: %v", got)
	}
	if got := node.Of(file(message(plainField())), api.KField); len(got) != 0 {
		t.Errorf("Of goes deeper: %v", got)
	}
	if len(node.Of(api.Node{}, 0)) != 0 || len(node.Of(api.Node{Kids: []api.Node{{}}}, 0)) != 1 {
		t.Error("the kind 0")
	}
}

// shares answers whether two texts have a byte of memory in common.
func shares(a, b string) bool {
	if a == "" || b == "" {
		return false
	}
	from, to := uintptr(unsafe.Pointer(unsafe.StringData(a))), uintptr(unsafe.Pointer(unsafe.StringData(b)))
	return from < to+uintptr(len(b)) && to < from+uintptr(len(a))
}

// P2: an answer is new memory, down to the deepest, and nothing that is given is changed.
func TestMemory(t *testing.T) {
	n := rich()
	before := clone(n)
	a, b := node.Of(n, api.KMessage), node.Of(n, api.KMessage)
	for i := range a {
		walk(&a[i], func(x *api.Node) {
			walk(&n, func(y *api.Node) {
				if shares(x.Text, y.Text) || shares(x.Doc, y.Doc) || shares(x.Text, y.Doc) {
					t.Errorf("the text of a %d is the argument's", x.Kind)
				}
			})
		})
		walk(&a[i], func(x *api.Node) {
			for _, kid := range x.Kids[:cap(x.Kids)][len(x.Kids):] {
				if kid.Kind != 0 {
					t.Errorf("behind the length lies a %d", kid.Kind)
				}
			}
			*x = api.Node{Kind: -1, Kids: x.Kids[:cap(x.Kids)]}
		})
	}
	if !reflect.DeepEqual(n, before) {
		t.Error("Of shares memory with its argument")
	}
	if !reflect.DeepEqual(b, node.Of(before, api.KMessage)) {
		t.Error("Of shares memory with another answer")
	}
	node.Check(n)
	node.Count(n)
	node.Deep(n)
	node.Same(n, n)
	if !reflect.DeepEqual(n, before) {
		t.Error("what is given is changed")
	}
	twice := []api.Node{message(plainField())}
	got := node.Of(file(mk(api.KMessage, "A", twice...), mk(api.KMessage, "B", twice...)), api.KMessage)
	got[0].Kids[0].Text, got[0].Kids[0].Kids[0].Text = "X", "X"
	if got[1].Kids[0].Text != "A" || got[1].Kids[0].Kids[0].Text != "b" {
		t.Error("two lists of one answer share memory")
	}
}

func number(t *testing.T, s string, n uint64, minus, is bool) {
	t.Helper()
	a, b, c := node.Int(s)
	if a != n || b != minus || c != is {
		t.Errorf("Int(%.100q) = %d, %v, %v, want %d, %v, %v", s, a, b, c, n, minus, is)
	}
	check(t, "the number "+s, file(option(mk(api.KInt, s))), is)
}

// P7.5: numbers, and what is none.
func TestInt(t *testing.T) {
	number(t, "0", 0, false, true)
	number(t, "1", 1, false, true)
	number(t, "-1", 1, true, true)
	number(t, "10", 10, false, true)
	number(t, "-907", 907, true, true)
	number(t, "9223372036854775807", 1<<63-1, false, true)
	number(t, "9223372036854775808", 1<<63, false, true)
	number(t, "18446744073709551615", math.MaxUint64, false, true)
	number(t, "-9223372036854775807", 1<<63-1, true, true)
	number(t, "-9223372036854775808", 1<<63, true, true)
	for _, s := range []string{
		"", "-", "--1", "-0", "00", "01", "-01", "007", "0x1", "0X1", "0x", "1x", "x", "a", "+1", " 1", "1 ", "1\n", "- 1", "1-", "1.0", "1e3", "1_000", ".1", "0b1", "0o7", "0-", "\x00", "1\x00", "\xff", "\u0661", "\uff11",
		"-9223372036854775809", "18446744073709551616", "-18446744073709551615", "-18446744073709551616", "99999999999999999999", "100000000000000000000", "018446744073709551615", "36893488147419103233",
		strings.Repeat("9", 1<<20), strings.Repeat("0", 1<<20), strings.Repeat("-", 1<<20), "1" + strings.Repeat("0", 1<<20),
	} {
		number(t, s, 0, false, false)
	}
}

// holdInt holds Int against the library's great numbers.
func holdInt(t *testing.T, s string) {
	t.Helper()
	i, is := new(big.Int).SetString(s, 10)
	is = is && i.String() == s && (i.IsInt64() || i.IsUint64())
	if !is {
		number(t, s, 0, false, false)
		return
	}
	number(t, s, new(big.Int).Abs(i).Uint64(), i.Sign() < 0, true)
}

// all answers the texts of up to n of the pieces.
func all(n int, pieces ...string) []string {
	texts, last := []string{""}, []string{""}
	for range n {
		var next []string
		for _, s := range last {
			for _, p := range pieces {
				next = append(next, s+p)
			}
		}
		texts, last = append(texts, next...), next
	}
	return texts
}

// P7.5: all texts of a few pieces, and numbers near the bounds.
func TestIntAll(t *testing.T) {
	for _, s := range all(5, "0", "1", "8", "9", "-", "x", "+", "_", ".") {
		holdInt(t, s)
	}
	for _, s := range all(3, "-", "0", "9223372036854775807", "9223372036854775808", "1844674407370955161", "5", "6") {
		holdInt(t, s)
	}
	for c := range 256 {
		for _, s := range []string{"%s", "-%s", "1%s", "-1%s", "0%s", "%s1"} {
			holdInt(t, fmt.Sprintf(s, string([]byte{byte(c)})))
		}
	}
}

// texts are what grown nodes have as Text.
var texts = []string{"", "a", "a.b", ".a", "proto2", "int32", "message", "option", "reserved", "1", "-5", "-0", "0x1", "\xff", "a b", strings.Repeat("a", 201), strings.Repeat("b", 1001), strings.Repeat("a", 10001)}

// numbers are what they have as N and M.
var numbers = []int64{0, 0, 0, 1, -1, 1<<31 - 1, 1 << 31, -1 << 31, -1<<31 - 1}

// docs are what they have as Doc.
var docs = []string{"", "", "", "\n", " a\n", "a", strings.Repeat("\n", 10001)}

// grown answers the tree n with changes at nodes, each told by four bytes.
func grown(n api.Node, b []byte) api.Node {
	n = clone(n)
	for ; len(b) >= 4; b = b[4:] {
		at, worth := int(b[1]), int(b[3])
		var nodes []*api.Node
		walk(&n, func(n *api.Node) { nodes = append(nodes, n) })
		to, from := nodes[at%len(nodes)], nodes[worth%len(nodes)]
		switch b[0] % 10 {
		case 0:
			to.Kind = worth%27 - 1
		case 1:
			to.Text = texts[worth%len(texts)]
		case 2:
			to.N = numbers[worth%len(numbers)]
		case 3:
			to.M = numbers[worth%len(numbers)]
		case 4:
			to.A = worth%6 - 1
		case 5:
			to.At = worth - 1
		case 6:
			to.Doc = docs[worth%len(docs)]
		case 7:
			if len(nodes) < 2000 {
				to.Kids = slices.Insert(to.Kids, int(b[2])%(len(to.Kids)+1), clone(*from))
			}
		case 8:
			if len(to.Kids) > 0 {
				i := int(b[2]) % len(to.Kids)
				to.Kids = slices.Delete(to.Kids, i, i+1)
			}
		case 9:
			to.Text = from.Text
		}
	}
	return n
}

// P7.1, P7.2, P7.3: every single change of every node, and pairs of kids that change places.
func TestChanges(t *testing.T) {
	base := rich()
	count := node.Count(base)
	right, wrong := 0, 0
	for what := range byte(10) {
		for at := range count {
			for worth := range byte(30) {
				n := grown(base, []byte{what, byte(at), worth, worth})
				if hold(t, fmt.Sprint("the change ", what, " at ", at, " to ", worth), n) {
					right++
				} else {
					wrong++
				}
			}
		}
	}
	if right < 1000 || wrong < 1000 {
		t.Errorf("%d trees may be, %d may not", right, wrong)
	}
}

func FuzzTree(f *testing.F) {
	f.Add([]byte{})
	f.Add([]byte{0, 5, 0, 9, 1, 7, 0, 3})
	f.Add([]byte{7, 0, 1, 4, 8, 3, 0, 0, 6, 9, 0, 4})
	base := rich()
	f.Fuzz(func(t *testing.T, b []byte) {
		n := grown(base, b[:min(len(b), 80)])
		hold(t, "a grown tree", n)
		var kids []api.Node
		for kind := -1; kind < 27; kind++ {
			for _, kid := range node.Of(n, kind) {
				if kid.Kind != kind {
					t.Errorf("Of answers a %d for a %d", kid.Kind, kind)
				}
				kids = append(kids, kid)
			}
		}
		if len(kids) != len(n.Kids) {
			t.Errorf("Of answers %d kids of %d", len(kids), len(n.Kids))
		}
	})
}

func FuzzInt(f *testing.F) {
	for _, s := range []string{"", "0", "-0", "-1", "01", "0x1", "18446744073709551615", "-9223372036854775808"} {
		f.Add(s)
	}
	f.Fuzz(holdInt)
}
