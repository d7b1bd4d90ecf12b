package graph_test

import (
	"fmt"
	"math"
	"reflect"
	"runtime/debug"
	"slices"
	"strconv"
	"strings"
	"testing"
	"unsafe"

	"glossary/api"
	"glossary/graph"
)

// unit answers one with its Deps, those behind a + public ones: "a: b +c".
func unit(said string) api.Unit {
	path, deps, _ := strings.Cut(said, ":")
	u := api.Unit{Path: path}
	for i, dep := range strings.Fields(deps) {
		name, public := strings.CutPrefix(dep, "+")
		if public {
			u.Public = append(u.Public, i)
		}
		u.Deps = append(u.Deps, name)
	}
	return u
}

func units(said ...string) []api.Unit {
	var l []api.Unit
	for _, s := range said {
		l = append(l, unit(s))
	}
	return l
}

func holdOrder(t *testing.T, l []api.Unit, asked, want string) {
	t.Helper()
	got, path, err := graph.Order(l, strings.Fields(asked))
	if err != api.OK || path != "" || !slices.Equal(got, strings.Fields(want)) {
		t.Errorf("Order of %v, asked %s: %v, %q, %d, want %s", l, asked, got, path, err, want)
	}
}

func refuse(t *testing.T, l []api.Unit, asked, path string, want api.Errno) {
	t.Helper()
	got, at, err := graph.Order(l, strings.Fields(asked))
	if err != want || at != path || len(got) != 0 {
		t.Errorf("Order of %v, asked %s: %v, %q, %d, want %q, %d", l, asked, got, at, err, path, want)
	}
}

func holdVisible(t *testing.T, l []api.Unit, path, want string) {
	t.Helper()
	if got := graph.Visible(l, path); !slices.Equal(got, strings.Fields(want)) {
		t.Errorf("Visible of %v from %q: %v, want %s", l, path, got, want)
	}
}

func holdClosure(t *testing.T, l []api.Unit, path, want string) {
	t.Helper()
	if got := graph.Closure(l, path); !slices.Equal(got, strings.Fields(want)) {
		t.Errorf("Closure of %v from %q: %v, want %s", l, path, got, want)
	}
}

// P10.1: the chapter's example.
func TestExample(t *testing.T) {
	holdOrder(t, units("a: b c", "b: c", "c"), "a", "c b a")
}

// P10.1: what is asked for, and what it imports, in their own order and not the units'.
func TestOrder(t *testing.T) {
	holdOrder(t, nil, "", "")
	holdOrder(t, units("a: b", "b"), "", "")
	holdOrder(t, units("a"), "a", "a")
	holdOrder(t, units("b", "a"), "a", "a")
	holdOrder(t, units("a", "b", "c"), "c a b", "c a b")
	holdOrder(t, units("a", "b"), "b a b a a", "b a")
	holdOrder(t, units("a: c b", "b", "c"), "a", "c b a")
	holdOrder(t, units("a: b c", "b", "c"), "a", "b c a")
	holdOrder(t, units("a: b", "b: c", "c: d", "d"), "a", "d c b a")
	holdOrder(t, units("d", "c: d", "b: c", "a: b"), "c a", "d c b a")
	holdOrder(t, units("a: b c", "b: d", "c: d", "d"), "a", "d b c a")
	holdOrder(t, units("a: b c", "b: d", "c: d", "d"), "c b a", "d c b a")
	holdOrder(t, units("a: b", "b", "c: b a"), "b c", "b a c")
	holdOrder(t, units("a: +b", "b: +c", "c"), "a", "c b a")
}

// P10.1: the unit of a path is the first with it; the others say nothing.
func TestFirstUnit(t *testing.T) {
	l := units("a: +b", "a: c", "a: b b", "b", "b: a", "b: x", "c")
	holdOrder(t, l, "a", "b a")
	holdOrder(t, l, "c a", "c b a")
	holdVisible(t, l, "a", "a b")
	holdVisible(t, l, "b", "b")
	holdClosure(t, l, "a", "a b")
	holdClosure(t, l, "b", "b")
	holdVisible(t, units("o: a", "a: b +c", "a: +b c"), "o", "a c o")
	refuse(t, units("a: x", "a"), "a", "x", api.ErrMissing)
	refuse(t, units("a: a", "a"), "a", "a", api.ErrCycle)
	refuse(t, units("a: b b", "a", "b"), "a", "a", api.ErrTwice)
}

// P10.1: what isn't come to may be as it is.
func TestNotComeTo(t *testing.T) {
	l := units("a: b", "b", "c: c", "d: x", "e: b b", "f: g", "g: f")
	holdOrder(t, l, "a", "b a")
	holdOrder(t, l, "", "")
	holdOrder(t, l, "b", "b")
}

func TestMissing(t *testing.T) {
	refuse(t, nil, "a", "a", api.ErrMissing)
	refuse(t, units("a"), "b", "b", api.ErrMissing)
	refuse(t, units("a"), "a b c", "b", api.ErrMissing)
	refuse(t, units("a: b"), "a", "b", api.ErrMissing)
	refuse(t, units("a: b", "b: c d"), "a", "c", api.ErrMissing)
	refuse(t, units("a: b d", "b: c", "c"), "a", "d", api.ErrMissing)
	// A path is what it is, byte by byte.
	refuse(t, units("a/b"), "./a/b", "./a/b", api.ErrMissing)
	refuse(t, units("a"), "A", "A", api.ErrMissing)
}

func TestTwice(t *testing.T) {
	refuse(t, units("a: b b", "b"), "a", "a", api.ErrTwice)
	refuse(t, units("a: b c d b", "b", "c", "d"), "a", "a", api.ErrTwice)
	refuse(t, units("o: a", "a: b b", "b"), "o", "a", api.ErrTwice)
	refuse(t, units("a: +b b", "b"), "a", "a", api.ErrTwice)
	// Two units may have the same one.
	holdOrder(t, units("a: b c", "b: c", "c"), "a a", "c b a")
}

func TestCycle(t *testing.T) {
	refuse(t, units("a: a"), "a", "a", api.ErrCycle)
	refuse(t, units("a: b", "b: a"), "a", "a", api.ErrCycle)
	refuse(t, units("a: b", "b: a"), "b", "b", api.ErrCycle)
	refuse(t, units("a: b", "b: c", "c: b"), "a", "b", api.ErrCycle)
	refuse(t, units("a: b", "b: c", "c: d", "d: a"), "c", "c", api.ErrCycle)
	refuse(t, units("a: b c", "b", "c: b d", "d: c a"), "a", "c", api.ErrCycle)
	refuse(t, units("a", "b: b"), "a b", "b", api.ErrCycle)
}

// P10.1: of several errors that which is met first.
func TestMetFirst(t *testing.T) {
	// A unit's ErrTwice ahead of its Deps.
	refuse(t, units("a: x x"), "a", "a", api.ErrTwice)
	refuse(t, units("a: a a"), "a", "a", api.ErrTwice)
	refuse(t, units("a: b c c", "b: b", "c"), "a", "a", api.ErrTwice)
	refuse(t, units("a: b", "b: x x a"), "a", "b", api.ErrTwice)
	// The Deps in their order, each with all that it imports.
	refuse(t, units("a: x a"), "a", "x", api.ErrMissing)
	refuse(t, units("a: a x"), "a", "a", api.ErrCycle)
	refuse(t, units("a: b x", "b: c", "c: b"), "a", "b", api.ErrCycle)
	refuse(t, units("a: x b", "b: c", "c: b"), "a", "x", api.ErrMissing)
	refuse(t, units("a: b x", "b: c c"), "a", "b", api.ErrTwice)
	refuse(t, units("a: x b", "b: c c"), "a", "x", api.ErrMissing)
	refuse(t, units("a: b", "b: y a"), "a", "y", api.ErrMissing)
	// What is asked for in its order.
	refuse(t, units("a: a", "b: x", "c: d d"), "a b c", "a", api.ErrCycle)
	refuse(t, units("a: a", "b: x", "c: d d"), "b c a", "x", api.ErrMissing)
	refuse(t, units("a: a", "b: x", "c: d d"), "c a b", "c", api.ErrTwice)
	refuse(t, units("a: a", "b"), "b x a", "x", api.ErrMissing)
}

// numbers answers the paths 0 to count - 1.
func numbers(count int) []string {
	l := make([]string, count)
	for i := range l {
		l[i] = strconv.Itoa(i)
	}
	return l
}

// row answers units each of which imports the next.
func row(count int) []api.Unit {
	paths := numbers(count)
	l := make([]api.Unit, count)
	for i, path := range paths {
		l[i] = api.Unit{Path: path}
		if i+1 < count {
			l[i].Deps, l[i].Public = paths[i+1:i+2], []int{0}
		}
	}
	return l
}

// P10.1: 1000 of each may be, 1001 of one of them may not.
func TestLong(t *testing.T) {
	holdLong := func(what string, l []api.Unit, asked []string, want int, wantErr api.Errno) {
		t.Helper()
		got, path, err := graph.Order(l, asked)
		if err != wantErr || path != "" || len(got) != want {
			t.Errorf("%s: %d paths, %q, %d", what, len(got), path, err)
		}
	}
	holdLong("1000 units", row(1000), []string{"0"}, 1000, api.OK)
	holdLong("1001 units", row(1001), []string{"1000"}, 0, api.ErrLong)
	holdLong("1001 units, nothing asked", row(1001), nil, 0, api.ErrLong)
	holdLong("1001 units of one path", slices.Repeat(units("a"), 1001), []string{"a"}, 0, api.ErrLong)
	holdLong("1000 units of one path", slices.Repeat(units("a"), 1000), []string{"a"}, 1, api.OK)

	wide := make([]api.Unit, 1000)
	for i, path := range numbers(1000) {
		wide[i].Path = path
	}
	all := numbers(1000)
	wide[999].Deps = all[:999]
	holdLong("999 Deps", wide, []string{"999"}, 1000, api.OK)
	holdLong("1000 asked", wide, all, 1000, api.OK)
	holdLong("1000 asked, one path", wide, slices.Repeat(all[:1], 1000), 1, api.OK)
	holdLong("1001 asked, one path", wide, slices.Repeat(all[:1], 1001), 0, api.ErrLong)
	holdLong("1001 asked of no units", nil, numbers(1001), 0, api.ErrLong)

	refuse(t, []api.Unit{{Path: "a", Deps: all}}, "a", "0", api.ErrMissing)
	refuse(t, []api.Unit{{Path: "a", Deps: slices.Repeat([]string{"a"}, 1000)}}, "a", "a", api.ErrTwice)
	many := api.Unit{Path: "a", Deps: numbers(1001)}
	holdLong("1001 Deps", []api.Unit{many}, []string{"a"}, 0, api.ErrLong)
	holdLong("1001 Deps of one path", []api.Unit{{Path: "a", Deps: slices.Repeat([]string{"a"}, 1001)}}, []string{"a"}, 0, api.ErrLong)
	holdLong("1001 Deps of a unit that isn't come to", []api.Unit{{Path: "b"}, many}, []string{"b"}, 0, api.ErrLong)
	holdLong("1001 Deps of a unit that isn't its path's first", []api.Unit{{Path: "a"}, many}, []string{"a"}, 0, api.ErrLong)
	holdLong("1001 Deps of the last unit, nothing asked", append(wide[:999:999], many), nil, 0, api.ErrLong)
	// How many are public isn't bounded.
	holdLong("1001 public places", []api.Unit{{Path: "a", Public: make([]int, 1001)}}, []string{"a"}, 1, api.OK)
	// Ahead of what else is wrong.
	holdLong("1001 Deps and a path that is missing", []api.Unit{many}, []string{"x"}, 0, api.ErrLong)
	holdLong("1001 asked that are missing", wide, slices.Repeat([]string{"x"}, 1001), 0, api.ErrLong)
}

// P10.2: its own, its Deps, and what these have that is public.
func TestVisible(t *testing.T) {
	l := units("a: b c", "b: c +d e", "c: +f", "d: g +h", "e: +i", "f", "g", "h: j", "i", "j")
	holdVisible(t, l, "a", "a b c d f h")
	holdVisible(t, l, "b", "b c d e f h i")
	holdVisible(t, l, "c", "c f")
	holdVisible(t, l, "d", "d g h")
	holdVisible(t, l, "j", "j")
	// Its own Deps are seen, public or not, and lead on.
	holdVisible(t, units("a: +b", "b: +c", "c: +d", "d: e", "e"), "a", "a b c d")
	holdVisible(t, units("a: b", "b: c", "c: +d", "d"), "a", "a b")
	// By two ways, of which one is public.
	holdVisible(t, units("a: b c", "b: d", "c: +d", "d: +e"), "a", "a b c d e")
	holdVisible(t, units("a: b c", "b: d", "c: +e", "d", "e: +d"), "a", "a b c d e")
}

// P10.2, P10.3: rising, byte by byte, each once.
func TestRising(t *testing.T) {
	l := units("m: z B a aa a/b é b a.b _ 0 a", "z: +b +a +zz", "a: +z +A")
	holdVisible(t, l, "m", "0 A B _ a a.b a/b aa b m z zz é")
	holdClosure(t, l, "m", "0 A B _ a a.b a/b aa b m z zz é")
	odd := []api.Unit{{Path: "\xff", Deps: []string{"\x80", "é", "", "\xff", "\x00"}}}
	want := []string{"", "\x00", "\x80", "é", "\xff"}
	if got := graph.Visible(odd, "\xff"); !slices.Equal(got, want) {
		t.Errorf("Visible: %q", got)
	}
	if got := graph.Closure(odd, "\xff"); !slices.Equal(got, want) {
		t.Errorf("Closure: %q", got)
	}
}

// P10.2, P10.3: without a unit of the path none; Deps without one lead nowhere.
func TestWithoutUnit(t *testing.T) {
	for _, l := range [][]api.Unit{nil, {}, units("a: x"), units("a: +x", "b: +a")} {
		holdVisible(t, l, "x", "")
		holdVisible(t, l, "", "")
		holdClosure(t, l, "x", "")
		holdClosure(t, l, "", "")
	}
	l := units("a: x b", "b: +y z")
	holdVisible(t, l, "a", "a b x y")
	holdClosure(t, l, "a", "a b x y z")
	holdVisible(t, l, "b", "b y z")
	holdClosure(t, l, "b", "b y z")
}

// P10.2: places that there aren't in Deps mean nothing, and neither order nor repeats do.
func TestPublicPlaces(t *testing.T) {
	tries := []struct {
		public []int
		want   string
	}{
		{nil, "a b"}, {[]int{}, "a b"}, {[]int{0}, "a b c"}, {[]int{1}, "a b d"}, {[]int{2}, "a b e"},
		{[]int{-1}, "a b"}, {[]int{3}, "a b"}, {[]int{math.MinInt, math.MaxInt}, "a b"}, {[]int{3, 2, -1}, "a b e"},
		{[]int{2, 0}, "a b c e"}, {[]int{1, 1, 1}, "a b d"}, {[]int{-1, 0, 1, 2, 3}, "a b c d e"},
	}
	for _, try := range tries {
		l := []api.Unit{unit("a: b"), {Path: "b", Deps: []string{"c", "d", "e"}, Public: try.public}}
		holdVisible(t, l, "a", try.want)
		holdVisible(t, l, "b", "b c d e")
		holdClosure(t, l, "a", "a b c d e")
	}
	holdVisible(t, []api.Unit{unit("a: b"), {Path: "b", Public: []int{0}}}, "a", "a b")
}

func TestClosure(t *testing.T) {
	l := units("a: b c", "b: +d", "c: d e", "d: f", "e", "f", "g: a")
	holdClosure(t, l, "a", "a b c d e f")
	holdClosure(t, l, "b", "b d f")
	holdClosure(t, l, "c", "c d e f")
	holdClosure(t, l, "f", "f")
	holdClosure(t, l, "g", "a b c d e f g")
}

// P10.2, P10.3: what Order refuses is seen and come to all the same.
func TestRound(t *testing.T) {
	l := units("a: a", "b: +c c", "c: +d", "d: +b e", "e: d d", "f: b")
	holdVisible(t, l, "a", "a")
	holdClosure(t, l, "a", "a")
	holdVisible(t, l, "b", "b c d")
	holdClosure(t, l, "b", "b c d e")
	holdVisible(t, l, "d", "b c d e")
	holdVisible(t, l, "e", "b c d e")
	holdVisible(t, l, "f", "b c d f")
	holdClosure(t, l, "f", "b c d e f")
}

// P1, P10.2, P10.3: more units, and more Deps, than Order takes; a long row takes no more room for calls than a short one.
func TestBeyondOrder(t *testing.T) {
	defer debug.SetMaxStack(debug.SetMaxStack(8 << 20))
	const many = 150000
	long := row(many)
	want := numbers(many)
	slices.Sort(want)
	if got := graph.Closure(long, "0"); !slices.Equal(got, want) {
		t.Errorf("Closure of a long row: %d paths", len(got))
	}
	if got := graph.Visible(long, "0"); !slices.Equal(got, want) {
		t.Errorf("Visible of a long row: %d paths", len(got))
	}
	if got := graph.Closure(long, strconv.Itoa(many-3)); len(got) != 3 {
		t.Errorf("Closure of its end: %v", got)
	}
	long[many-1].Deps, long[many-1].Public = []string{"0", "x"}, []int{0, 1}
	want = append(want, "x")
	for _, from := range []string{"0", "7", strconv.Itoa(many - 1)} {
		if got := graph.Closure(long, from); !slices.Equal(got, want) {
			t.Errorf("Closure of a ring from %s: %d paths", from, len(got))
		}
		if got := graph.Visible(long, from); !slices.Equal(got, want) {
			t.Errorf("Visible of a ring from %s: %d paths", from, len(got))
		}
	}
	long[many-2000].Public = nil
	if got := graph.Visible(long, "0"); len(got) != many-1999 {
		t.Errorf("Visible of a broken row: %d paths", len(got))
	}
	wide := []api.Unit{{Path: "a", Deps: numbers(many)}}
	if got := graph.Closure(wide, "a"); len(got) != many+1 {
		t.Errorf("Closure of many Deps: %d paths", len(got))
	}
	if got := graph.Visible(wide, "a"); len(got) != many+1 {
		t.Errorf("Visible of many Deps: %d paths", len(got))
	}
}

// P3: nil and empty are the same.
func TestEmpty(t *testing.T) {
	for _, l := range [][]api.Unit{nil, {}, {{}}, {{Deps: []string{}, Public: []int{}}}} {
		for _, asked := range [][]string{nil, {}} {
			if got, path, err := graph.Order(l, asked); len(got) != 0 || path != "" || err != api.OK {
				t.Errorf("Order of %v: %v, %q, %d", l, got, path, err)
			}
		}
		if len(l) == 0 {
			continue
		}
		// The empty path is one like others.
		want := []string{""}
		if got, _, err := graph.Order(l, want); !slices.Equal(got, want) || err != api.OK {
			t.Errorf("Order of %v: %q, %d", l, got, err)
		}
		if !slices.Equal(graph.Visible(l, ""), want) || !slices.Equal(graph.Closure(l, ""), want) {
			t.Errorf("the empty path of %v", l)
		}
	}
	if _, path, err := graph.Order([]api.Unit{{Deps: []string{""}}}, []string{""}); path != "" || err != api.ErrCycle {
		t.Errorf("the empty path within itself: %q, %d", path, err)
	}
}

// P2: what lies behind a list's length isn't read, and isn't written.
func TestBehindLength(t *testing.T) {
	l := units("a: b +c x", "b: +d +y", "c", "d", "x: x", "y")
	l[0].Deps, l[1].Deps = l[0].Deps[:2], l[1].Deps[:1]
	asked := []string{"b", "a", "x", "q"}
	again, askedAgain := fmt.Sprint(l, l[0].Deps[:3], l[1].Deps[:2]), slices.Clone(asked)
	holdVisible(t, l[:3], "a", "a b c d")
	holdClosure(t, l[:4], "a", "a b c d")
	holdClosure(t, l[:1], "a", "a b c")
	holdClosure(t, l[:0], "a", "")
	refuse(t, l[:3], "a", "d", api.ErrMissing)
	if got, path, err := graph.Order(l[:4], asked[:2]); err != api.OK || !slices.Equal(got, []string{"d", "b", "c", "a"}) {
		t.Errorf("Order: %v, %q, %d", got, path, err)
	}
	if fmt.Sprint(l, l[0].Deps[:3], l[1].Deps[:2]) != again || !slices.Equal(asked, askedAgain) {
		t.Errorf("what was given is changed: %v, %v", l, asked)
	}
}

// overlaps answers whether two texts share bytes.
func overlaps(a, b string) bool {
	if a == "" || b == "" {
		return false
	}
	from, other := uintptr(unsafe.Pointer(unsafe.StringData(a))), uintptr(unsafe.Pointer(unsafe.StringData(b)))
	return from < other+uintptr(len(b)) && other < from+uintptr(len(a))
}

// P2: answers are new memory, whichever of a path's texts they come from.
func TestMemory(t *testing.T) {
	path := func(name string) string { return strings.Repeat(name, 20) }
	var given []string
	text := func(name string) string {
		given = append(given, path(name))
		return given[len(given)-1]
	}
	l := []api.Unit{
		{Path: text("a"), Deps: []string{text("b"), text("c")}},
		{Path: text("b"), Deps: []string{text("c")}, Public: []int{0}},
		{Path: text("c")},
		{Path: text("d"), Deps: []string{text("d")}},
		{Path: text("e"), Deps: []string{text("x")}},
		{Path: text("f"), Deps: []string{text("c"), text("c")}},
	}
	asked := []string{text("a"), text("b")}
	again := fmt.Sprint(l, asked)
	var answers []string
	for range 2 {
		order, _, _ := graph.Order(l, asked)
		answers = append(answers, order...)
		answers = append(answers, graph.Visible(l, asked[0])...)
		answers = append(answers, graph.Closure(l, asked[0])...)
		for _, name := range []string{"d", "e", "f", "x"} {
			_, wrong, _ := graph.Order(l, []string{text(name)})
			answers = append(answers, wrong)
		}
	}
	if want := 2 * (3 + 3 + 3 + 4); len(answers) != want {
		t.Fatalf("%d answers, want %d", len(answers), want)
	}
	for i, answer := range answers {
		for _, other := range slices.Concat(given, answers[:i]) {
			if overlaps(answer, other) {
				t.Errorf("the answer %d, %q, has memory of another text", i, answer)
			}
		}
	}
	if fmt.Sprint(l, asked) != again {
		t.Error("what was given is changed")
	}
	one, two := graph.Closure(l, asked[0]), graph.Closure(l, asked[0])
	clear(one)
	if !reflect.DeepEqual(two, graph.Closure(l, asked[0])) {
		t.Error("two answers are one list")
	}
}
