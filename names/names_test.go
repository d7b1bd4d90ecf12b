package names_test

import (
	"regexp"
	"slices"
	"strings"
	"testing"
	"unsafe"

	"glossary/names"
)

// words are the keywords, as the chapter lists them.
const words = "message enum extend extensions option oneof map reserved optional required repeated rpc service import package syntax stream returns to max public"

// types are the plain types, as the chapter lists them.
const types = "double float int32 int64 uint32 uint64 sint32 sint64 fixed32 fixed64 sfixed32 sfixed64 bool string bytes"

// all answers the texts of up to n of the pieces.
func all(n int, pieces ...string) []string {
	texts, last := []string{""}, []string{""}
	for range n {
		var next []string
		for _, s := range last {
			for _, p := range pieces {
				next = append(next, s+p)
			}
		}
		texts, last = append(texts, next...), next
	}
	return texts
}

func ident(t *testing.T, s string, want bool) {
	t.Helper()
	if got := names.Ident(s); got != want {
		t.Errorf("Ident(%.300q) = %v, want %v", s, got, want)
	}
}

func full(t *testing.T, s string, want bool) {
	t.Helper()
	if got := names.Full(s); got != want {
		t.Errorf("Full(%.300q) = %v, want %v", s, got, want)
	}
}

// P6.1: names, and what is none.
func TestIdent(t *testing.T) {
	for _, s := range []string{"a", "Z", "_", "__", "a1", "_1", "foo_bar", "A9z_", "message", "int32"} {
		ident(t, s, true)
		full(t, s, true)
	}
	for _, s := range []string{"", "1", "1a", "0_", "a b", " a", "a ", "a-b", "a\n", "\na", "a\x00", "ä", "aä", "é1", "a\u0660", "\uff41", "a\xff", "\xff", "\u212a", "\u017f", "a\u0301"} {
		ident(t, s, false)
		full(t, s, false)
	}
	ident(t, "a.b", false)
	ident(t, ".", false)
}

// P6.1: every byte and every character, as the first sign and behind one.
func TestIdentEverySign(t *testing.T) {
	first := regexp.MustCompile(`^[A-Za-z_]$`)
	behind := regexp.MustCompile(`^[A-Za-z_0-9]$`)
	hold := func(s string) {
		ident(t, s, first.MatchString(s))
		ident(t, "a"+s, behind.MatchString(s))
		ident(t, "a"+s+"b", behind.MatchString(s))
		full(t, s, first.MatchString(s))
		full(t, "a."+s, first.MatchString(s))
		full(t, "a"+s, behind.MatchString(s))
		full(t, "a"+s+"b", behind.MatchString(s) || s == ".")
	}
	for c := range 256 {
		hold(string([]byte{byte(c)}))
	}
	for c := rune(0); c < 0x30000; c++ {
		hold(string(c))
	}
}

// P6.1: a name has at most 200 bytes, alone and in a full name.
func TestIdentLong(t *testing.T) {
	for _, sign := range []string{"a", "_", "Z"} {
		for n := 1; n <= 300; n++ {
			s := strings.Repeat(sign, n)
			ident(t, s, n <= 200)
			full(t, s, n <= 200)
			full(t, "b."+s, n <= 200)
			full(t, s+".b", n <= 200)
			full(t, "b."+s+".c", n <= 200)
		}
	}
	ident(t, "a"+strings.Repeat("0", 199), true)
	ident(t, "a"+strings.Repeat("0", 200), false)
	ident(t, strings.Repeat("a", 199)+"-", false)
	ident(t, strings.Repeat("a", 1<<24), false)
}

// P6.1: full names, and what is none.
func TestFull(t *testing.T) {
	for _, s := range []string{"a.b", "a.b.c", "_._", "a1.b2", "google.protobuf.FieldOptions", "to.map"} {
		full(t, s, true)
	}
	for _, s := range []string{".", "..", ".a", "a.", "a..b", ".a.b", "a.b.", "a.1", "1.a", "a.1b", "a. b", "a .b", "a.b c", "a,b", "a.ä", "a\uff0eb", "a.\xff", "a/b"} {
		full(t, s, false)
	}
}

// P6.1: a full name has at most 1000 bytes, its dots among them.
func TestFullLong(t *testing.T) {
	hundred := strings.Repeat("a", 99) + "."
	for n := 1; n <= 200; n++ {
		s := strings.Repeat(hundred, 9) + strings.Repeat("b", n)
		full(t, s, n <= 100)
	}
	full(t, strings.Repeat("a.", 499)+"ab", true)
	full(t, strings.Repeat("a.", 500)+"a", false)
	full(t, strings.Repeat("a.", 500), false)
	full(t, strings.Repeat(strings.Repeat("a", 200)+".", 4)+strings.Repeat("a", 196), true)
	full(t, strings.Repeat(strings.Repeat("a", 200)+".", 4)+strings.Repeat("a", 197), false)
	full(t, strings.Repeat("a.", 1<<23)+"a", false)
	full(t, strings.Repeat(".", 1<<23), false)
}

// P6.1: all texts of a few pieces.
func TestIdentAll(t *testing.T) {
	name := regexp.MustCompile(`^[A-Za-z_][A-Za-z_0-9]*$`)
	names := regexp.MustCompile(`^[A-Za-z_][A-Za-z_0-9]*(\.[A-Za-z_][A-Za-z_0-9]*)*$`)
	for _, s := range all(6, "a", "B", "0", "_", ".", "\xe4") {
		ident(t, s, name.MatchString(s))
		full(t, s, names.MatchString(s))
	}
}

// P6.2: each of the words and types; nothing that is near one.
func TestKeyword(t *testing.T) {
	listed := strings.Fields(words + " " + types)
	if len(listed) != 21+15 {
		t.Fatal(len(listed))
	}
	for _, s := range listed {
		if !names.Keyword(s) {
			t.Errorf("Keyword(%q) is false", s)
		}
	}
	var near []string
	for _, s := range listed {
		near = append(near, s+s, " "+s, s+" ", s+"\x00", "."+s, strings.ToUpper(s), strings.ToUpper(s[:1])+s[1:])
		for i := range s {
			near = append(near, s[:i], s[i+1:], s[:i]+s[i+1:], s[:i]+"_"+s[i:], s[:i]+"x"+s[i+1:])
		}
		for _, other := range listed {
			near = append(near, s+" "+other, s+other)
		}
	}
	near = append(near, "", " ", "a", "group", "syntax2", "proto2", "proto3", "true", "false", "inf", "nan", "default", "json_name", "weak", "edition", "extends", "import public", words, types, strings.Repeat("int32", 1<<20))
	for _, s := range near {
		if names.Keyword(s) != slices.Contains(listed, s) {
			t.Errorf("Keyword(%.100q) = %v", s, names.Keyword(s))
		}
	}
}

func join(t *testing.T, scope, name, want string) {
	t.Helper()
	if got := names.Join(scope, name); got != want {
		t.Errorf("Join(%q, %q) = %q, want %q", scope, name, got, want)
	}
}

func parent(t *testing.T, full, scope, name string) {
	t.Helper()
	if a, b := names.Parent(full); a != scope || b != name {
		t.Errorf("Parent(%q) = %q, %q, want %q, %q", full, a, b, scope, name)
	}
}

// P6.3: ordinary names, and texts that are none.
func TestJoin(t *testing.T) {
	join(t, "", "", "")
	join(t, "", "x", "x")
	join(t, "", "x.y", "x.y")
	join(t, "", ".x", ".x")
	join(t, "a", "x", "a.x")
	join(t, "a.b", "x.y", "a.b.x.y")
	join(t, "a", "", "a.")
	join(t, "a.", "x", "a..x")
	join(t, "a", ".x", "a..x")
	join(t, ".", ".", "...")
	join(t, " ", "x", " .x")
	join(t, "\xff", "\x00", "\xff.\x00")
}

// P6.3: a name without a dot has nothing ahead of it and is all behind.
func TestParent(t *testing.T) {
	parent(t, "", "", "")
	parent(t, "a", "", "a")
	parent(t, "a.b", "a", "b")
	parent(t, "a.b.c", "a.b", "c")
	parent(t, ".", "", "")
	parent(t, "..", ".", "")
	parent(t, ".a", "", "a")
	parent(t, ".a.b", ".a", "b")
	parent(t, "a.", "a", "")
	parent(t, "a..b", "a.", "b")
	parent(t, "ä.\xff", "ä", "\xff")
	parent(t, "a\uff0eb", "", "a\uff0eb")
	long := strings.Repeat("a.", 1<<20)
	parent(t, long+"b", long[:len(long)-1], "b")
}

// holdParent holds Parent and Join against each other: what is joined comes apart, what is taken apart joins.
func holdParent(t *testing.T, s string) {
	t.Helper()
	scope, name := names.Parent(s)
	if strings.Contains(name, ".") || !strings.Contains(s, ".") && scope != "" {
		t.Errorf("Parent(%q) = %q, %q", s, scope, name)
	}
	if s != scope+"."+name && (s != name || strings.Contains(s, ".")) {
		t.Errorf("Parent(%q) = %q, %q, which don't come to it", s, scope, name)
	}
	if scope != "" {
		join(t, scope, name, s)
	}
}

// P6.3: all texts of a few pieces.
func TestParentAll(t *testing.T) {
	texts := all(4, "a", ".", "_", "\xff")
	for _, s := range texts {
		holdParent(t, s)
		for _, name := range texts {
			want := s + "." + name
			if s == "" {
				want = name
			}
			join(t, s, name, want)
		}
	}
}

func places(t *testing.T, scope, name string, want ...string) {
	t.Helper()
	if got := names.Places(scope, name); !slices.Equal(got, want) {
		t.Errorf("Places(%q, %q) = %q, want %q", scope, name, got, want)
	}
}

// P6.4: from the innermost scope out.
func TestPlaces(t *testing.T) {
	places(t, "a.b", "c", "a.b.c", "a.c", "c")
	places(t, "a.b", "c.d", "a.b.c.d", "a.c.d", "c.d")
	places(t, "a", "a", "a.a", "a")
	places(t, "", "c", "c")
	places(t, "", "c.d", "c.d")
	places(t, "a.b.c.d", "e", "a.b.c.d.e", "a.b.c.e", "a.b.e", "a.e", "e")
}

// P6.4: behind a dot ahead there is one place, whatever the scope.
func TestPlacesWhole(t *testing.T) {
	for _, scope := range []string{"", "a", "a.b", ".", ".a", "\xff"} {
		places(t, scope, ".c", "c")
		places(t, scope, ".c.d", "c.d")
		places(t, scope, ".", "")
		places(t, scope, "..", ".")
		places(t, scope, "..c", ".c")
	}
}

// P6.4: texts that are no names.
func TestPlacesOdd(t *testing.T) {
	places(t, "", "", "")
	places(t, "a.b", "", "a.b.", "a.", "")
	places(t, ".", "c", "..c", "c")
	places(t, ".a", "c", ".a.c", "c")
	places(t, "a.", "c", "a..c", "a.c", "c")
	places(t, "a..b", "c.", "a..b.c.", "a..c.", "a.c.", "c.")
	places(t, "\xff.ä", "\x00", "\xff.ä.\x00", "\xff.\x00", "\x00")
}

// wanted answers the places, each by the scope's parts that are left.
func wanted(scope, name string) []string {
	if name != "" && name[0] == '.' {
		return []string{name[1:]}
	}
	var want []string
	parts := strings.Split(scope, ".")
	for n := len(parts); n > 0; n-- {
		if left := strings.Join(parts[:n], "."); left != "" {
			want = append(want, left+"."+name)
		}
	}
	return append(want, name)
}

// P6.4: all scopes and names of a few pieces.
func TestPlacesAll(t *testing.T) {
	texts := all(5, "a", ".", "\xff")
	for _, scope := range texts {
		for _, name := range all(3, "b", ".") {
			places(t, scope, name, wanted(scope, name)...)
		}
	}
	long := strings.Repeat("a.", 1<<10) + "b"
	places(t, long, "c", wanted(long, "c")...)
}

func camel(t *testing.T, name, json, entry string) {
	t.Helper()
	if got := names.Json(name); got != json {
		t.Errorf("Json(%.100q) = %.100q, want %.100q", name, got, json)
	}
	if got := names.Entry(name); got != entry+"Entry" {
		t.Errorf("Entry(%.100q) = %.100q, want %.100q", name, got, entry+"Entry")
	}
}

// P6.5, P6.6: ordinary names.
func TestCamel(t *testing.T) {
	camel(t, "foo_bar__baz1", "fooBarBaz1", "FooBarBaz1")
	camel(t, "my_map", "myMap", "MyMap")
	camel(t, "a", "a", "A")
	camel(t, "A", "A", "A")
	camel(t, "fooBar", "fooBar", "FooBar")
	camel(t, "foo_Bar", "fooBar", "FooBar")
	camel(t, "FOO_BAR", "FOOBAR", "FOOBAR")
	camel(t, "a_b_c", "aBC", "ABC")
	camel(t, "a_z", "aZ", "AZ")
	camel(t, "z_a", "zA", "ZA")
}

// P6.5, P6.6: _ ahead, at the end, alone; digits behind one.
func TestCamelEdges(t *testing.T) {
	camel(t, "", "", "")
	camel(t, "_", "", "")
	camel(t, "___", "", "")
	camel(t, "_a", "A", "A")
	camel(t, "__a", "A", "A")
	camel(t, "a_", "a", "A")
	camel(t, "a__", "a", "A")
	camel(t, "_a_", "A", "A")
	camel(t, "_1", "1", "1")
	camel(t, "1a", "1a", "1a")
	camel(t, "_1a", "1a", "1a")
	camel(t, "a1_2b", "a12b", "A12b")
	camel(t, "a_1_b", "a1B", "A1B")
	camel(t, "a_.b", "a.b", "A.b")
	camel(t, ".b_c", ".bC", ".bC")
}

// P6.5, P6.6: letters beyond z stay, as bytes that are no characters do.
func TestCamelOdd(t *testing.T) {
	camel(t, "ä_ä", "ää", "ää")
	camel(t, "äa_äb", "äaäb", "äaäb")
	camel(t, "\u0131_\u017f", "\u0131\u017f", "\u0131\u017f")
	camel(t, "\xff_\xe2\x82_a", "\xff\xe2\x82A", "\xff\xe2\x82A")
	camel(t, "\xe2_a", "\xe2A", "\xe2A")
	camel(t, "a\xff\xfe", "a\xff\xfe", "A\xff\xfe")
	camel(t, "_\xffa", "\xffa", "\xffa")
	camel(t, "\ufffd_a\ufffd", "\ufffdA\ufffd", "\ufffdA\ufffd")
	camel(t, "\x00_a", "\x00A", "\x00A")
	for c := range 256 {
		s := string([]byte{byte(c)})
		great := s
		if s >= "a" && s <= "z" {
			great = strings.ToUpper(s)
		}
		if s != "_" {
			camel(t, s, s, great)
			camel(t, "_"+s, great, great)
			camel(t, "X__"+s+s, "X"+great+s, "X"+great+s)
		}
	}
}

var (
	behind = regexp.MustCompile(`_[a-z]`)
	first  = regexp.MustCompile(`^[a-z]`)
)

// jsonOf answers a name as P6.5 says it, by patterns.
func jsonOf(name string) string {
	return strings.ReplaceAll(behind.ReplaceAllStringFunc(name, strings.ToUpper), "_", "")
}

func holdCamel(t *testing.T, name string) {
	t.Helper()
	camel(t, name, jsonOf(name), jsonOf(first.ReplaceAllStringFunc(name, strings.ToUpper)))
}

// P6.5, P6.6: all names of a few pieces, and a long one.
func TestCamelAll(t *testing.T) {
	for _, s := range all(6, "a", "z", "Q", "7", "_", "ä") {
		holdCamel(t, s)
	}
	camel(t, strings.Repeat("_ab", 1<<20), strings.Repeat("Ab", 1<<20), strings.Repeat("Ab", 1<<20))
	camel(t, strings.Repeat("_", 1<<22), "", "")
	camel(t, strings.Repeat("a", 1<<22), strings.Repeat("a", 1<<22), "A"+strings.Repeat("a", 1<<22-1))
}

func synthetic(t *testing.T, name, want string, taken ...string) {
	t.Helper()
	if got := names.Synthetic(name, taken); got != want {
		t.Errorf("Synthetic(%q, %q) = %q, want %q", name, taken, got, want)
	}
}

// P6.7: X is put ahead just as long as the name is taken.
func TestSynthetic(t *testing.T) {
	synthetic(t, "a", "_a")
	synthetic(t, "a", "_a", "a", "X_b", "_b", "b")
	synthetic(t, "a", "_a", "X_a", "XX_a")
	synthetic(t, "a", "X_a", "_a")
	synthetic(t, "a", "X_a", "a", "_a", "_a")
	synthetic(t, "a", "XX_a", "X_a", "_a")
	synthetic(t, "a", "XX_a", "_a", "X_a")
	synthetic(t, "a", "X_a", "_a", "XX_a")
	synthetic(t, "a", "XXX_a", "XX_a", "_a", "X_a", "XXXX_a")
	synthetic(t, "_a", "__a", "_a")
	synthetic(t, "X_a", "_X_a", "X_a", "_a")
	synthetic(t, "", "_")
	synthetic(t, "", "_", "")
	synthetic(t, "", "X_", "_")
	synthetic(t, "a", "_a", "_A", "x_a", " _a", "_a ")
	synthetic(t, "\xff", "X_\xff", "_\xff")
}

// P6.7: one that is free after many.
func TestSyntheticLong(t *testing.T) {
	var taken []string
	for n := range 1000 {
		taken = append(taken, strings.Repeat("X", n)+"_a")
	}
	slices.Reverse(taken)
	synthetic(t, "a", strings.Repeat("X", 1000)+"_a", taken...)
	synthetic(t, "a", strings.Repeat("X", 999)+"_a", taken[1:]...)
	synthetic(t, "b", "_b", taken...)
}

// P6.7: all lists of a few names that are taken, or near it, held against the promise's own words.
func TestSyntheticAll(t *testing.T) {
	near := []string{"_a", "X_a", "XX_a", "XXX_a", "Y_a", "_aX", "X_", "XXXXXXXXXXXX_a"}
	for set := range 1 << len(near) {
		var taken []string
		for i, name := range near {
			if set>>i&1 > 0 {
				taken = append(taken, name)
			}
		}
		want := "_a"
		for slices.Contains(taken, want) {
			want = "X" + want
		}
		synthetic(t, "a", want, taken...)
		slices.Reverse(taken)
		synthetic(t, "a", want, slices.Concat(taken, taken)...)
	}
}

// P3: a nil list is an empty one.
func TestNil(t *testing.T) {
	if a, b := names.Synthetic("a", nil), names.Synthetic("a", []string{}); a != "_a" || b != "_a" {
		t.Error(a, b)
	}
}

// shares answers whether two texts have a byte of memory in common.
func shares(a, b string) bool {
	if a == "" || b == "" {
		return false
	}
	from, to := uintptr(unsafe.Pointer(unsafe.StringData(a))), uintptr(unsafe.Pointer(unsafe.StringData(b)))
	return from < to+uintptr(len(b)) && to < from+uintptr(len(a))
}

// P2: no answer is an argument's memory, or another's.
func TestMemory(t *testing.T) {
	scope, name, dotted := strings.Repeat("s", 40), strings.Repeat("n", 40), "."+strings.Repeat("d", 40)
	both := scope + dotted
	answers := []string{names.Join("", name), names.Join("", name), names.Join(scope, ""), names.Json(name), names.Json(name), names.Entry(name), names.Synthetic(name, nil)}
	answers = append(answers, names.Places("", name)...)
	answers = append(answers, names.Places(both, name)...)
	answers = append(answers, names.Places(scope, dotted)...)
	for _, s := range []string{both, name, dotted} {
		a, b := names.Parent(s)
		answers = append(answers, a, b)
	}
	for i, a := range answers {
		for _, given := range append(slices.Clone(answers[:i]), scope, name, dotted, both) {
			if shares(a, given) {
				t.Errorf("%q, the answer %d, shares memory", a, i)
			}
		}
	}
}

// P2, P3: what is given stays as it is, what lies behind its length is not read, and answers are the same again.
func TestTaken(t *testing.T) {
	list := []string{"_a", "X_a", "XX_a"}
	if got := names.Synthetic("a", list[:1]); got != "X_a" {
		t.Errorf("Synthetic reads behind the length: %q", got)
	}
	if !slices.Equal(list, []string{"_a", "X_a", "XX_a"}) {
		t.Errorf("Synthetic changed what it was given: %q", list)
	}
	a, b := names.Places("a.b", "c"), names.Places("a.b", "c")
	a = a[:cap(a)]
	for i := range a {
		a[i] = "x"
	}
	if !slices.Equal(b, []string{"a.b.c", "a.c", "c"}) {
		t.Errorf("Places shares memory: %q", b)
	}
}

func FuzzName(f *testing.F) {
	for _, s := range []string{"", "a", "_a1", "1a", "a.b", "a..b", "foo_bar__baz1", "\xff_a", "ä_b", "int32"} {
		f.Add(s)
	}
	name := regexp.MustCompile(`^[A-Za-z_][A-Za-z_0-9]{0,199}$`)
	f.Fuzz(func(t *testing.T, s string) {
		ident(t, s, name.MatchString(s))
		full(t, s, len(s) <= 1000 && !slices.ContainsFunc(strings.Split(s, "."), func(p string) bool { return !name.MatchString(p) }))
		if got := names.Keyword(s); got != slices.Contains(strings.Fields(words+" "+types), s) {
			t.Errorf("Keyword(%q) = %v", s, got)
		}
		holdParent(t, s)
		holdCamel(t, s)
	})
}

func FuzzPlaces(f *testing.F) {
	f.Add("a.b", "c")
	f.Add("", "c")
	f.Add("a", ".c")
	f.Add(".a..", "")
	f.Fuzz(func(t *testing.T, scope, name string) {
		places(t, scope, name, wanted(scope, name)...)
		taken := names.Places(scope, "_"+name)
		got := names.Synthetic(name, taken)
		if slices.Contains(taken, got) || strings.TrimLeft(got, "X") != "_"+name {
			t.Errorf("Synthetic(%q, %q) = %q", name, taken, got)
		}
	})
}
