package parse_test

import (
	"fmt"
	"math"
	"math/rand/v2"
	"reflect"
	"slices"
	"strings"
	"testing"
	"unsafe"

	"glossary/api"
	"glossary/lex"
	"glossary/node"
	"glossary/parse"
)

// right holds that a source comes to a tree, and answers it.
func right(t *testing.T, s string) api.Node {
	t.Helper()
	n, at, err := parse.File(s)
	if err != api.OK || at != 0 || !node.Check(n) {
		t.Fatalf("%.300q: %d at %d", s, err, at)
	}
	holdSource(t, s)
	return n
}

// wrong holds that a source has an error at a place.
func wrong(t *testing.T, s string, at int, err api.Errno) {
	t.Helper()
	n, place, got := parse.File(s)
	if got != err || place != at || !reflect.DeepEqual(n, api.Node{}) {
		t.Errorf("%.300q (of %d bytes): %d at %d, want %d at %d", s, len(s), got, place, err, at)
	}
	holdSource(t, s)
}

// P8.1, P8.2: the chapter's example.
func TestExample(t *testing.T) {
	want := api.Node{Kind: api.KFile, Kids: []api.Node{{Kind: api.KMessage, Text: "A", Kids: []api.Node{
		{Kind: api.KField, Text: "b", N: 1, A: api.LabelOptional, At: 12, Kids: []api.Node{{Kind: api.KType, Text: "int32", At: 21}}},
	}}}}
	if got := right(t, "message A { optional int32 b = 1; }"); !reflect.DeepEqual(got, want) {
		t.Errorf("%v", got)
	}
}

// P8.1: what lex.Scan says comes first.
func TestScanErrors(t *testing.T) {
	wrong(t, "#", 0, api.ErrToken)
	wrong(t, "message } \n#", 11, api.ErrToken)
	wrong(t, "message A { /* }", 12, api.ErrComment)
	wrong(t, "} 08", 2, api.ErrNumber)
	wrong(t, "option a = 18446744073709551616;", 11, api.ErrNumber)
	wrong(t, `option a = "\q";`, 12, api.ErrQuote)
	wrong(t, "option a = 'b\n';", 13, api.ErrQuote)
	wrong(t, strings.Repeat(" ", api.MaxSource+1), 0, api.ErrLong)
	wrong(t, "}"+strings.Repeat(" ", api.MaxSource), 0, api.ErrLong)
	right(t, strings.Repeat(" ", api.MaxSource))
	right(t, strings.Repeat(";", api.MaxSource))
}

// places answers the nodes of a tree as their kinds and places.
func places(n api.Node) string {
	s := fmt.Sprint(n.Kind, "@", n.At)
	for _, kid := range n.Kids {
		s += " " + places(kid)
	}
	return s
}

// P8.2: where nodes stand.
func TestPlaces(t *testing.T) {
	for s, want := range map[string]string{
		"":                                            "1@0",
		"  ":                                          "1@2",
		" ; ":                                         "1@1",
		" syntax = 'proto3'; import 'a';":             "1@1 2@20",
		"/**/ import public 'a'; package a.b;":        "1@5 2@5 3@24",
		"option a = 1;":                               "1@0 4@7 19@7 20@11",
		"option (.a.b).c = -1;":                       "1@0 4@7 19@7 19@14 20@18",
		"option a = b; option c = 'd';":               "1@0 4@7 19@7 21@11 4@21 19@21 22@25",
		"option a = {b: 1, [.c.d] {e: f}};":           "1@0 4@7 19@7 23@11 24@12 20@15 24@18 23@25 24@26 21@29",
		"option a = {b: {}};":                         "1@0 4@7 19@7 23@11 24@12 23@15",
		"message A { int32 a = 1; }":                  "1@0 5@0 9@12 18@12",
		"message A { .a.B a = 1; }":                   "1@0 5@0 9@12 18@12",
		"message A { repeated .a.B a = 1; }":          "1@0 5@0 9@12 18@21",
		"message A { map < int32, .a > b = 1; }":      "1@0 5@0 10@12 18@18 18@25",
		"message A { a b = 1 [c = 1, (d).e = 2]; }":   "1@0 5@0 9@12 18@12 4@21 19@21 20@25 4@28 19@28 19@32 20@36",
		"message A { oneof b { c d = 1; } }":          "1@0 5@0 11@12 9@22 18@22",
		"message A { extensions 1, 2 to 3; }":         "1@0 5@0 12@12 14@23 14@26",
		"message A { reserved 1; reserved 'a', 'b';}": "1@0 5@0 13@12 14@21 13@24 15@33 15@38",
		"message A { message B {} enum C { D = -1; } extend E { optional F g = 1; } }": "1@0 5@0 5@12 6@25 16@34 7@44 9@55 18@64",
		"service A { rpc B(stream C) returns (.D) { option e = f; } }":                 "1@0 8@0 17@12 18@25 18@37 4@50 19@50 21@54",
	} {
		if got := places(right(t, s)); got != want {
			t.Errorf("%q: %s, want %s", s, got, want)
		}
	}
}

// docs answers the comments of all nodes that have one, by kind.
func docs(n api.Node) string {
	s := ""
	if n.Doc != "" {
		s = fmt.Sprintf("%d%q ", n.Kind, n.Doc)
	}
	for _, kid := range n.Kids {
		s += docs(kid)
	}
	return s
}

// P8.2: comments, of the first token of nodes that may have one, and of no others.
func TestDocs(t *testing.T) {
	for s, want := range map[string]string{
		"// a\nmessage A {}":                                            `5" a\n" `,
		"// a\n// b\nenum A {}":                                         `6" a\n b\n" `,
		"// a\nservice A {\n// b\nrpc B(C) returns (D); }":              `8" a\n" 17" b\n" `,
		"// a\n\nmessage A {}":                                          "",
		"// a\n; message A {}":                                          "",
		"message // a\nA {}":                                            "",
		"message\n// a\nA {}":                                           "",
		"message A {\n// a\noptional b c = 1; }":                        `9" a\n" `,
		"message A {\n// a\nb c = 1; }":                                 `9" a\n" `,
		"message A {\n// a\n.b c = 1; }":                                `9" a\n" `,
		"message A { optional\n// a\nb c = 1; }":                        "",
		"message A {\n// a\nmap<int32, b> c = 1;}":                      `10" a\n" `,
		"message A {\n// a\noneof b {\n// c\nd e = 1; } }":              `11" a\n" 9" c\n" `,
		"enum A {\n// a\nB = 1; \n// c\n D = 1;}":                       `16" a\n" 16" c\n" `,
		"// a\nextend A {\n// b\nC d = 1; }":                            `9" b\n" `,
		"// a\nsyntax = 'proto2';":                                      "",
		"// a\nimport 'a'; \n// b\npackage c;":                          "",
		"// a\noption a = 1;\n// b\noption\n// c\nd\n// e\n=\n// f\n1;": "",
		"message A {\n// a\nreserved\n// b\n1; \n// c\nextensions\n// d\n2; \n// e\nreserved\n// f\n'a';}": "",
		"message A {\n// a\n}\n// b\n":                       "",
		"option a = {\n// b\nc: 1 \n// d\n[e]: 2 \n// f\n};": "",
	} {
		if got := docs(right(t, s)); got != want {
			t.Errorf("%q: %s, want %s", s, got, want)
		}
	}
}

// P8.2, P8.3: a comment that node.Check doesn't take is left out.
func TestLongDocs(t *testing.T) {
	for _, size := range []int{9998, 9999, 10000, 10001, 20000} {
		doc := strings.Repeat("a", size-1) + "\n"
		n := right(t, "//"+doc+"message A {}")
		if size > 10000 {
			doc = ""
		}
		if n.Kids[0].Doc != doc {
			t.Errorf("of %d bytes: %d bytes", size, len(n.Kids[0].Doc))
		}
	}
}

// wrongs are sources, one a line, with a ^ ahead of the token that fits no continuation.
const wrongs = `
^}
^a
^1
^'a'
^.
; ^=
^Message A {}
^rpc A(a) returns (b);
^oneof A {}
^map<int32, a> b = 1;
^reserved 1;
^optional int32 a = 1;
message A {} ^}
syntax^
syntax ^'proto2';
syntax = ^
syntax = ^proto2;
syntax = ^2;
syntax = 'proto2'^
syntax = 'proto2' ^message A {}
syntax = ^'';
syntax = ^'proto';
syntax = ^'proto1';
syntax = ^'proto4';
syntax = ^'Proto2';
syntax = ^'proto2 ';
; ^syntax = 'proto2';
syntax = 'proto2'; ^syntax = 'proto2';
import 'a'; ^syntax = 'proto2';
import^
import ^a;
import ^;
import ^weak 'a';
import public^
import public ^public 'a';
import 'a' ^'b';
import 'a'^
package^
package ^.a;
package ^'a';
package ^;
package a^
package a ^b;
package a.^
package a.^.b;
package a.^1;
package a ^= b;
package a; ^package b;
package a; ^package
package a; import 'b'; message C {} ; ^package a;

option^
option ^;
option ^1 = 2;
option ^= 1;
option ^'a' = 1;
option ^.a = 1;
option ^[a] = 1;
option a^;
option a = ^;
option a =^
option a = 1^
option a = 1 ^2;
option a. ^= 1;
option a ^b = 1;
option (^) = 1;
option (a ^= 1;
option (a.^) = 1;
option (.^) = 1;
option (.^.a) = 1;
option (^1) = 1;
option (a)^(b) = 1;
option (a)^b = 1;
option a = -^;
option a = -^b;
option a = -^-1;
option a = -^'1';
option a = -^{};
option a = -^0;
option a = -^0x0;
option a = -^9223372036854775809;
option a = -^18446744073709551615;
option a = ^(b);
option a = ^[1];
option a = ^.b;
option a = b^.c;
option a = 'b' ^'c';
option a = ^<b: 1>;
option a = {^
option a = {^;};
option a = {^,};
option a = {^: 1};
option a = {b^};
option a = {b ^1};
option a = {b ^'c'};
option a = {b ^c};
option a = {b ^-1};
option a = {b ^= 1};
option a = {b:^};
option a = {b:^: 1};
option a = {b: ^[1]};
option a = {b: -^0};
option a = {b: 1,^,};
option a = {b: 1;^;};
option a = {b: 1,^;};
option a = {^1: 2};
option a = {^'b': 2};
option a = {^(b): 2};
option a = {[^]: 1};
option a = {[b^: 1};
option a = {b^.c: 1};
option a = {b {}^
option a = {}^

message^
message ^{}
message ^1 {}
message ^'A' {}
message A^
message A ^;
message A ^A {}
message A^.B {}
message A {^
message A { ^1
message A { ^=
message A { ^{
message A { ^rpc a = 1; }
message A { ^service B {} }
message A { ^import 'a'; }
message A { ^package b; }
message A { ^to a = 1; }
message A { ^max a = 1; }
message A { ^public a = 1; }
message A { ^stream a = 1; }
message A { ^returns a = 1; }
message A { ^syntax a = 1; }
message A { ^map a = 1; }
message A { ^map.a b = 1; }
message A { ^map = 1; }
message A { ^map
message A { optional ^map<int32, a> b = 1; }
message A { optional ^optional a = 1; }
message A { optional ^required a b = 1; }
message A { optional ^message.b c = 1; }
message A { repeated ^}
message A { optional int32^.a b = 1; }
message A { int32^.a b = 1; }
message A { int32 ^= 1; }
message A { . a ^= 1; }
message A { a. b ^= 1; }
message A { .^.a b = 1; }
message A { a^; }
message A { a ^1 = 1; }
message A { a b^; }
message A { a b ^1; }
message A { a b = ^; }
message A { a b = ^-1; }
message A { a b = ^c; }
message A { a b = ^'1'; }
message A { a b = 1^
message A { a b = 1 ^2
message A { a b = 1^}
message A { a b = 1 ^{}
message A { a b = ^2147483648; }
message A { a b = ^18446744073709551615; }
message A { optional group a = 1 ^{}
message A { a b = 1 [^]; }
message A { a b = 1 [c^]; }
message A { a b = 1 [c = 1^; }
message A { a b = 1 [c = 1,^]; }
message A { a b = 1 [c = 1 ^d = 1]; }
message A { a b = 1 [c = 1] ^[d = 1]; }
message A { map<^a, b> c = 1; }
message A { map<^.a, b> c = 1; }
message A { map<^.int32, b> c = 1; }
message A { map<^a.int32, b> c = 1; }
message A { map<^Int32, a> b = 1; }
message A { map<^message, b> c = 1; }
message A { map<^, b> c = 1; }
message A { map<^1, b> c = 1; }
message A { map<int32^.a, b> c = 1; }
message A { map<int32^> c = 1; }
message A { map<int32, ^> c = 1; }
message A { map<int32, ^map<int32, a>> c = 1; }
message A { map<int32, ^message> c = 1; }
message A { map<int32, a^, b> c = 1; }
message A { map<int32, a> ^= 1; }
message A { map<int32, a> b = ^-1; }
message A { map<int32, a> b = ^2147483648; }
message A { map<int32, a> b = 1^
message A { oneof ^{
message A { oneof a ^;
message A { oneof a {^
message A { oneof a { ^optional b c = 1; } }
message A { oneof a { ^map<int32, b> c = 1; } }
message A { oneof a { ^oneof b {} } }
message A { oneof a { ^message B {} } }
message A { oneof a { ^reserved 1; } }
message A { oneof a { b c = ^2147483648; } }
message A { extensions^
message A { extensions ^;
message A { extensions ^max;
message A { extensions ^to 1;
message A { extensions 1 to^
message A { extensions 1 to ^;
message A { extensions 1 to ^a;
message A { extensions 1 ^- 2;
message A { extensions 1 ^max;
message A { extensions 1,^;
message A { extensions 1 ^2;
message A { extensions ^'a';
message A { extensions ^-1;
message A { extensions 1 to 2 ^to 3;
message A { extensions 1 to max ^to 3;
message A { extensions 1 ^[a = 1];
message A { extensions ^2147483648;
message A { extensions 1 to ^2147483648;
message A { extensions 1, ^4294967296;
message A { reserved^
message A { reserved ^;
message A { reserved ^a;
message A { reserved 'a', ^1;
message A { reserved 1, ^'a';
message A { reserved 'a' ^'b';
message A { reserved 'a' ^to 'b';
message A { reserved 'a',^;
message A { reserved ^'';
message A { reserved ^'a.b';
message A { reserved ^'1';
message A { reserved ^'a b';
message A { reserved 'a', ^'-';
message A { reserved ^-1;
message A { reserved ^2147483648;
message A { reserved 1 to ^2147483648;

enum^
enum ^{
enum A ^;
enum A {^
enum A { ^1
enum A { ^'a'
enum A { ^.a
enum A { a^;
enum A { a ^b = 1;
enum A { a = ^;
enum A { a = -^;
enum A { a = -^-1;
enum A { a = -^b;
enum A { a = 1^
enum A { a = 1^,
enum A { a = 1 [^]; }
enum A { option ^= 1; }
enum A { ^reserved = 1; }
enum A { ^reserved 1; }
enum A { message ^B {} }
enum A { a = ^2147483648; }
enum A { a = -^2147483649; }
enum A { a = -^18446744073709551615; }

extend^
extend ^{
extend ^int32 {}
extend ^bytes {}
extend ^message {}
extend ^message.a {}
extend ^int32.a {}
extend ^'a' {}
extend a. ^{}
extend a ^;
extend a {^
extend a { ^message B {} }
extend a { ^map<int32, b> c = 1; }
extend a { ^option b = 1; }
extend a { ^oneof b {} }
extend a { ^extend b {} }
extend a { optional ^option b = 1; }

service^
service ^{
service A ^;
service A {^
service A { ^a
service A { ^message B {} }
service A { ^stream
service A { rpc^
service A { rpc ^(
service A { rpc B ^C
service A { rpc B(^) returns (a); }
service A { rpc B(^message) returns (a); }
service A { rpc B(stream^) returns (a); }
service A { rpc B(stream ^stream) returns (a); }
service A { rpc B(a^, b)
service A { rpc B(a ^b
service A { rpc B(int32^.a) returns (b); }
service A { rpc B(a) ^return (b);
service A { rpc B(a) ^(b);
service A { rpc B(a) returns ^b;
service A { rpc B(a) returns (^);
service A { rpc B(a) returns (b)^
service A { rpc B(a) returns (b)^}
service A { rpc B(a) returns (b) ^[c = 1];
service A { rpc B(a) returns (b) {^
service A { rpc B(a) returns (b) { ^a
service A { rpc B(a) returns (b) { ^rpc
`

// P8.2: where each token stands that may not.
func TestWrong(t *testing.T) {
	for _, s := range strings.Split(wrongs, "\n") {
		if ahead, behind, is := strings.Cut(s, "^"); is {
			wrong(t, ahead+behind, len(ahead), api.ErrSyntax)
		}
	}
}

// P8.2: what may be, though it looks as if it might not.
func TestRight(t *testing.T) {
	for _, s := range []string{
		"", ";", ";;;", "syntax = \"proto3\";", "syntax = '\\x70roto2';", "import '';", "import public '\\xff';", "package message;", "package a.message.int32;", "import 'a'; import 'a'; message B {}; import 'c'; package d;",
		"option message = option;", "option syntax = true;", "option (message.a).(int32).option = -1;", "option (.a.b) = -9223372036854775808;", "option a = 18446744073709551615;", "option a = 0x0;", "option a = 00;", "option a = max;", "option a = -01;",
		"option a = {};", "option a = {b: 1 c: 2, d: 3; e {} f: {} , g {h {}}; };", "option a = {[.b.c] {} [message]: 'd'};", "option a = {option: option message: message};",
		"message message {}", "message option { int32 option = 1; }", "message A { optional int32 message = 0; repeated .message message = 2147483647; a.message b = 1; messages c = 1; }",
		"message A { .int32 b = 1; .map c = 1; a.map d = 1; maps e = 1; map<int32, int32> map = 1; map < bool, .map > f = 1; }",
		"message A { optional group a = 1; group b = 2; }", "message A { optional.a b = 1; }", "message A { required .a b = 1; repeated a.b c = 1; }",
		"message A { ; oneof oneof { ; option a = 1; int32 option = 1; ; } ; oneof a {} }",
		"message A { extensions 0; extensions 1 to 0, 2 to max, 2147483647 to 2147483647; reserved 1, 1 to 1; reserved 'message', \"a\"; }",
		"enum A { }", "enum A { ; message = 1; map = -2147483648; enum = 2147483647; to = -0; int32 = 0x7fffffff; options = 1; option a = 1; Reserved = 1; optional = 1; extend = 1 [a = 1, (b) = 2]; }",
		"extend .a {}", "extend .int32 {}", "extend .message { ; }", "extend a.int32 { int32 b = 1; optional .a c = 1; repeated a.b d = 1; required a e = 1; }", "extend maps {}",
		"service A { ; option a = 1; rpc rpc(a) returns (b) ; rpc stream(stream .a) returns (stream a.b) {} ; rpc B(int32) returns (.stream) { ; option a = 1; ; option b = 2; } }", "service A { rpc B(stream.a) returns (streams); }",
	} {
		right(t, s)
	}
}

// kidOf answers the node that places in lists of kids lead to.
func kidOf(n api.Node, path ...int) api.Node {
	for _, i := range path {
		n = n.Kids[i]
	}
	return n
}

// P8.2: what nodes have, where words and signs leave room for doubt.
func TestWorths(t *testing.T) {
	is := func(what string, got api.Node, kind int, text string, n, m int64, a, kids int) {
		t.Helper()
		if got.Kind != kind || got.Text != text || got.N != n || got.M != m || got.A != a || len(got.Kids) != kids {
			t.Errorf("%s: %v", what, got)
		}
	}
	n := right(t, "message A { optional.a b = 1; extensions 4, 5 to 6, 7 to max, 0x10 to 010; reserved '\\x61'; map<string, .c> d = 017; }")
	is("a label, and a type with a dot ahead", kidOf(n, 0, 0), api.KField, "b", 1, 0, 1, 1)
	is("a type with a dot ahead", kidOf(n, 0, 0, 0), api.KType, ".a", 0, 0, 0, 0)
	is("one number", kidOf(n, 0, 1, 0), api.KRange, "", 4, 4, 0, 0)
	is("two numbers", kidOf(n, 0, 1, 1), api.KRange, "", 5, 6, 0, 0)
	is("max", kidOf(n, 0, 1, 2), api.KRange, "", 7, 536870911, 0, 0)
	is("other bases", kidOf(n, 0, 1, 3), api.KRange, "", 16, 8, 0, 0)
	is("a word", kidOf(n, 0, 2, 0), api.KWord, "a", 0, 0, 0, 0)
	is("a map", kidOf(n, 0, 3), api.KMap, "d", 15, 0, 0, 2)
	is("its second type", kidOf(n, 0, 3, 1), api.KType, ".c", 0, 0, 0, 0)
	n = right(t, "service A { rpc B(stream.a) returns (b); rpc C(a) returns (stream b); rpc D(stream a) returns (stream b) {option c = 1;} rpc E(a) returns (b) {} }")
	for i, a := range []int{1, 2, 3, 0} {
		is("an rpc", kidOf(n, 0, i), api.KRpc, string("BCDE"[i]), 0, 0, a, 2+[]int{0, 0, 1, 0}[i])
	}
	is("a streamed type with a dot ahead", kidOf(n, 0, 0, 0), api.KType, ".a", 0, 0, 0, 0)
	n = right(t, "option a = {b: 0x10 [.c . d]: -010, e: 'f\\n' g {}}; option (h . i).j = k;")
	aggr := kidOf(n, 0, 1)
	is("an aggregate", aggr, api.KAggr, "", 0, 0, 0, 4)
	is("a number to 16", kidOf(aggr, 0, 0), api.KInt, "16", 0, 0, 0, 0)
	is("an entry in brackets", kidOf(aggr, 1), api.KEntry, ".c.d", 0, 0, 1, 1)
	is("a number below 0", kidOf(aggr, 1, 0), api.KInt, "-8", 0, 0, 0, 0)
	is("a text", kidOf(aggr, 2, 0), api.KString, "f\n", 0, 0, 0, 0)
	is("an aggregate of none", kidOf(aggr, 3, 0), api.KAggr, "", 0, 0, 0, 0)
	is("a part in brackets", kidOf(n, 1, 0), api.KPart, "h.i", 0, 0, 1, 0)
	is("a part", kidOf(n, 1, 1), api.KPart, "j", 0, 0, 0, 0)
	is("a name", kidOf(n, 1, 2), api.KIdent, "k", 0, 0, 0, 0)
	n = right(t, "enum A { a = -2147483648; b = -0; option c = 1; } import public 'd'; import 'e'; package f . g; extend . h . i {}")
	is("the least value", kidOf(n, 0, 0), api.KValue, "a", math.MinInt32, 0, 0, 0)
	is("nought", kidOf(n, 0, 1), api.KValue, "b", 0, 0, 0, 0)
	is("a public import", kidOf(n, 1), api.KImport, "d", 0, 0, 1, 0)
	is("an import", kidOf(n, 2), api.KImport, "e", 0, 0, 0, 0)
	is("a package", kidOf(n, 3), api.KPackage, "f.g", 0, 0, 0, 0)
	is("what is extended", kidOf(n, 4), api.KExtend, ".h.i", 0, 0, 0, 0)
	if n := right(t, "syntax = 'proto3';"); n.Text != "proto3" {
		t.Errorf("the syntax is %q", n.Text)
	}
}

// P8.2: names and texts that are as long as they may be, and longer.
func TestLengths(t *testing.T) {
	for _, size := range []int{1, 199, 200, 201, 1000} {
		name := strings.Repeat("n", size)
		for _, s := range []string{"message % {}", "enum E { % = 1; }", "message A { % b = 1; }", "message A { a % = 1; }", "option % = 1;", "option a = %;", "option (a.%) = 1;", "option a = {%: 1};", "package a.%;", "service A { rpc %(a) returns (b); }", "message A { reserved '%'; }"} {
			ahead, behind, _ := strings.Cut(s, "%")
			if size <= 200 {
				right(t, ahead+name+behind)
			} else {
				wrong(t, ahead+name+behind, len(strings.TrimSuffix(ahead, "'")), api.ErrSyntax)
			}
		}
	}
	for size, fits := range map[int]bool{999: true, 1000: true, 1001: false, 9999: false} {
		for _, ahead := range []string{"import ", "import public "} {
			if s := ahead + "'" + strings.Repeat("p", size) + "';"; fits {
				right(t, s)
			} else {
				wrong(t, s, len(ahead), api.ErrSyntax)
			}
		}
	}
	for size, fits := range map[int]bool{9999: true, 10000: true, 10001: false} {
		for _, ahead := range []string{"option a = ", "option a = {b: ", "message A { a b = 1 [c = "} {
			s := ahead + "'" + strings.Repeat(`\000`, size) + "'"
			n, at, err := parse.File(s)
			if place := map[bool]int{true: len(s), false: len(ahead)}[fits]; err != api.ErrSyntax || at != place || n.Kind != 0 {
				t.Errorf("a text of %d: %d at %d", size, err, at)
			}
		}
	}
}

// P8.2: full names of up to 1000 bytes; what makes one longer is wrong, be it a name or a dot.
func TestFullNames(t *testing.T) {
	part := strings.Repeat("n", 99) + "."
	for _, form := range []string{"package %;", "option (%) = 1;", "option (.%) = 1;", "option a = {[%]: 1};", "message A { % b = 1; }", "message A { optional .% b = 1; }", "extend % {}", "service A { rpc B(%) returns (b); }", "message A { map<int32, %> b = 1; }"} {
		ahead, behind, _ := strings.Cut(form, "%")
		for size := 95; size < 106; size++ {
			full := strings.Repeat(part, 9) + strings.Repeat("m", size)
			if s := ahead + full + behind; size <= 100 {
				right(t, s)
			} else {
				wrong(t, s, len(ahead)+900, api.ErrSyntax)
			}
			// Behind 999 bytes or more a dot leads nowhere.
			if size < 99 {
				wrong(t, ahead+full+"."+strings.Repeat("o", 100-size)+behind, len(ahead)+len(full)+1, api.ErrSyntax)
				right(t, ahead+full+"."+strings.Repeat("o", 99-size)+behind)
			} else if size <= 100 {
				wrong(t, ahead+full+".o"+behind, len(ahead)+len(full), api.ErrSyntax)
			}
		}
	}
}

// P8.2: thirty braces may be open; the thirty-first tells where it stands.
func TestDeep(t *testing.T) {
	for _, form := range []struct{ begin, again, end string }{
		{"", "message A {", ""},
		{"option a = {", "a {", "};"},
		{"option a = {", "a: {", "};"},
		{"message A { a b = 1 [c = {", "a {", "}];}"},
		{"message A { map<int32, a> b = 1 [c = {", "a {", "}];}"},
		{"message A { enum A { a = 1 [c = {", "a {", "}];}}"},
		{"message A { oneof B { a b = 1 [c = {", "a {", "}];}}"},
		{"service A { rpc B(a) returns (b) { option a = {", "a {", "};}}"},
		{"extend A { a b = 1 [c = {", "a {", "}];}"},
	} {
		outer := strings.Count(form.begin, "{")
		for open := 28; open < 34; open++ {
			s := form.begin + strings.Repeat(form.again, open-outer)
			if open > 30 {
				at := len(form.begin) + len(form.again)*(31-outer) - 1
				wrong(t, s, at, api.ErrDeep)
				wrong(t, s+" ]", at, api.ErrDeep)
				continue
			}
			wrong(t, s, len(s), api.ErrSyntax)
			end := strings.Repeat("}", open-outer) + form.end
			right(t, s+end)
			// Braces that are closed again don't count.
			right(t, form.begin+strings.Repeat(form.again+"}"+form.again, open-outer)+end)
		}
	}
	thirty := strings.Repeat("message A {", 30)
	wrong(t, thirty+"{", len(thirty), api.ErrSyntax)
	wrong(t, thirty+"enum A ] {", len(thirty)+7, api.ErrSyntax)
	for _, s := range []string{"enum A {", "message A {", "extend A {", "oneof A {", "option a = {", "a b = 1 [c = {"} {
		wrong(t, thirty+s, len(thirty+s)-1, api.ErrDeep)
	}
	wrong(t, "} "+thirty+"message A {", 0, api.ErrSyntax)
	right(t, thirty+"option a = 1;"+strings.Repeat("}", 30))
	right(t, strings.Repeat("message A { enum B {} }", 100))
}

// P8.2: 20,000 nodes may be; of more it is told last.
func TestLong(t *testing.T) {
	spans := func(count int) string { return "message A { extensions " + strings.Repeat("1,", count-1) + "1; }" }
	entries := func(count int) string { return "option a = {" + strings.Repeat("a:1 ", count) + "};" }
	for _, count := range []int{19996, 19997, 19998, 20000, 40000} {
		s := spans(count)
		if count+3 <= api.MaxNodes {
			if n := right(t, s); node.Count(n) != count+3 {
				t.Errorf("%d ranges: %d nodes", count, node.Count(n))
			}
			continue
		}
		wrong(t, s, 0, api.ErrLong)
		wrong(t, s+"}", len(s), api.ErrSyntax)
		wrong(t, "syntax "+s, 7, api.ErrSyntax)
		deep := s + strings.Repeat("message A {", 31)
		wrong(t, deep, len(deep)-1, api.ErrDeep)
	}
	for count, fits := range map[int]bool{9997: true, 9998: true, 9999: false, 20000: false} {
		if s := entries(count); fits {
			right(t, s)
		} else {
			wrong(t, s, 0, api.ErrLong)
		}
	}
	// A list may be longer than any source's.
	l := slices.Repeat([]api.Token{{Kind: api.TokSign, Text: ";"}}, 1<<20)
	if n, at, err := parse.Tokens(append(l, api.Token{})); n.Kind != api.KFile || at != 0 || err != api.OK {
		t.Errorf("a million statements: %d at %d", err, at)
	}
}

// P8.2: lists without an end.
func TestNoEnd(t *testing.T) {
	tokens, _, _ := lex.Scan("} message A { optional int32 b = 1 [c = {d: -1}]; } map")
	for from := range tokens {
		for to := from; to < len(tokens); to++ {
			if n, at, err := parse.Tokens(tokens[from:to]); n.Kind != 0 || at != 0 || err != api.ErrSyntax {
				t.Fatalf("%d to %d: %d at %d", from, to, err, at)
			}
		}
	}
	if n, at, err := parse.Tokens(nil); n.Kind != 0 || at != 0 || err != api.ErrSyntax {
		t.Errorf("nothing: %d at %d", err, at)
	}
	if n, at, err := parse.Tokens([]api.Token{{}}); n.Kind != api.KFile || at != 0 || err != api.OK {
		t.Errorf("an end: %d at %d", err, at)
	}
	// What lies behind the length isn't read.
	whole, _, _ := lex.Scan("message A {}")
	if _, at, err := parse.Tokens(whole[:4]); at != 0 || err != api.ErrSyntax {
		t.Errorf("an end behind the length: %d at %d", err, at)
	}
}

// holdOdd holds what is promised of any list.
func holdOdd(t *testing.T, l []api.Token) bool {
	t.Helper()
	before := slices.Clone(l)
	n, at, err := parse.Tokens(l)
	if err == api.OK && (at != 0 || !node.Check(n)) || err != api.OK && !reflect.DeepEqual(n, api.Node{}) {
		t.Errorf("%v: %v, %d at %d", l, n, err, at)
	}
	if !slices.Equal(l, before) {
		t.Errorf("%v is changed", before)
	}
	return err == api.OK
}

// P1, P8.3: lists that no source has.
func TestOdd(t *testing.T) {
	odd := func(t *api.Token, how int) {
		switch how {
		case 0:
			t.At = -1
		case 1:
			t.At = math.MinInt
		case 2:
			t.Doc = "no end"
		case 3:
			t.Kind = 1 - t.Kind
		case 4:
			t.Kind = 99
		case 5:
			t.Text = ""
		case 6:
			t.Text = "a.b"
		case 7:
			t.N = math.MaxUint64
		case 8:
			t.Kind = api.TokStr
		case 9:
			t.Kind = api.TokInt
		case 10:
			t.Kind = api.TokSign
		case 11:
			t.Kind = api.TokName
		case 12:
			t.Text = "\xff"
		case 13:
			t.Kind = api.TokEnd
		case 14:
			t.Doc = "\n"
		}
	}
	right, wrong := 0, 0
	for seed := range uint64(60) {
		_, s := sample(seed, 20)
		tokens, _, _ := lex.Scan(s)
		for i := range tokens {
			for how := range 15 {
				l := slices.Clone(tokens)
				odd(&l[i], how)
				if holdOdd(t, l) {
					right++
				} else {
					wrong++
				}
			}
		}
	}
	if right < 1000 || wrong < 1000 {
		t.Errorf("%d are right, %d wrong", right, wrong)
	}
	long := []api.Token{{Kind: api.TokName, Text: "map"}, {}}
	holdOdd(t, long)
	holdOdd(t, slices.Repeat([]api.Token{{Kind: api.TokSign, Text: "{"}}, 100000))
	holdOdd(t, []api.Token{{Kind: api.TokEnd, Text: "}"}, {Kind: api.TokEnd, Text: ";"}})
}

// shares answers whether two texts have a byte of memory in common.
func shares(a, b string) bool {
	if a == "" || b == "" {
		return false
	}
	from, to := uintptr(unsafe.Pointer(unsafe.StringData(a))), uintptr(unsafe.Pointer(unsafe.StringData(b)))
	return from < to+uintptr(len(b)) && to < from+uintptr(len(a))
}

// texts answers all texts of a tree.
func texts(n api.Node) []string {
	l := []string{n.Text, n.Doc}
	for _, kid := range n.Kids {
		l = append(l, texts(kid)...)
	}
	return l
}

// P2: an answer is new memory, and nothing that is given is changed.
func TestMemory(t *testing.T) {
	for seed := range uint64(40) {
		_, s := sample(seed, 60)
		tokens, _, _ := lex.Scan(s)
		before := slices.Clone(tokens)
		n, _, err := parse.Tokens(tokens)
		if err != api.OK || !slices.Equal(tokens, before) {
			t.Fatalf("%q: %d", s, err)
		}
		file, _, _ := parse.File(s)
		for _, text := range texts(n) {
			for _, token := range tokens {
				if shares(text, token.Text) || shares(text, token.Doc) {
					t.Fatalf("%q is a token's", text)
				}
			}
		}
		for _, text := range texts(file) {
			if shares(text, s) {
				t.Fatalf("%q is the source's", text)
			}
		}
		again, _, _ := parse.Tokens(tokens)
		scribble(&n)
		if !reflect.DeepEqual(again, file) {
			t.Fatalf("%q: answers share memory, or differ", s)
		}
	}
}

// scribble writes into all lists of a tree, as far as they reach.
func scribble(n *api.Node) {
	for i := range n.Kids {
		scribble(&n.Kids[i])
	}
	for i := range n.Kids[:cap(n.Kids)] {
		n.Kids[:cap(n.Kids)][i] = api.Node{Kind: -1}
	}
}

func FuzzTokens(f *testing.F) {
	f.Add(uint64(1), []byte{1, 2, 3})
	f.Add(uint64(7), []byte{0, 40, 3, 9, 41, 0})
	words := vocabulary()
	f.Fuzz(func(t *testing.T, seed uint64, b []byte) {
		_, s := sample(seed, 20)
		l, _, err := lex.Scan(s)
		if err != api.OK {
			return
		}
		g := rand.New(rand.NewPCG(seed, 3))
		for _, c := range b[:min(len(b), 50)] {
			switch i := g.IntN(len(l)); c % 4 {
			case 0:
				l = twisted(g, l, words)
			case 1:
				l[i].Kind = int(c>>2) % 6
			case 2:
				l[i].Text = words[int(c>>2)%len(words)]
			case 3:
				l[i].At -= int(c >> 2)
			}
		}
		holdOdd(t, l)
	})
}
