package parse_test

import (
	"fmt"
	"regexp"
	"slices"
	"strings"
	"testing"

	"glossary/api"
	"glossary/lex"
	"glossary/node"
	"glossary/parse"
)

// rules are the chapter's, with a word of its own for each kind of number, text and name that has bounds of its own, and one package at most.
const rules = `
file    = ["syntax" "=" SYNTAX ";"] {item | ";"} ["package" FULL ";" {item | ";"}] END
item    = "import" ["public"] PATH ";" | option | message | enum | extend | service
option  = "option" opt ";"
opt     = part {"." part} "=" worth
part    = NAME | "(" REF ")"
worth   = INT | "-" MINUS | NAME | TEXT | aggr
aggr    = "{" {entry ["," | ";"]} "}"
entry   = (NAME | "[" REF "]") (":" worth | [":"] aggr)
message = "message" NAME "{" {message | enum | extend | option | oneof | field | map | "extensions" ranges ";" | "reserved" (ranges | words) ";" | ";"} "}"
field   = [label] TYPE NAME "=" NUMBER [opts] ";"
label   = "optional" | "required" | "repeated"
map     = MAP "<" KEY "," TYPE ">" NAME "=" NUMBER [opts] ";"
opts    = "[" opt {"," opt} "]"
oneof   = "oneof" NAME "{" {option | TYPE NAME "=" NUMBER [opts] ";" | ";"} "}"
ranges  = range {"," range}
range   = NUMBER ["to" (NUMBER | "max")]
words   = WORD {"," WORD}
enum    = "enum" NAME "{" {option | VALUE "=" (NUMBER | "-" BELOW) [opts] ";" | ";"} "}"
extend  = "extend" EXTENDEE "{" {field | ";"} "}"
service = "service" NAME "{" {option | rpc | ";"} "}"
rpc     = "rpc" NAME "(" ["stream"] TYPE ")" "returns" "(" ["stream"] TYPE ")" (";" | "{" {option | ";"} "}")
`

// keywords and plain are chapter 6's.
const (
	keywords = "message enum extend extensions option oneof map reserved optional required repeated rpc service import package syntax stream returns to max public"
	plain    = "double float int32 int64 uint32 uint64 sint32 sint64 fixed32 fixed64 sfixed32 sfixed64 bool string bytes"
)

func among(words, s string) bool { return slices.Contains(strings.Fields(words), s) }

var identPattern = regexp.MustCompile(`\A[A-Za-z_][A-Za-z_0-9]{0,199}\z`)

func ident(s string) bool { return identPattern.MatchString(s) }

// matcher answers all places to which tokens from a place on go by a rule.
type matcher func(o *oracle, at int) []int

// oracle goes through tokens by the rules, all ways at once, and notes the farthest token that fits none.
type oracle struct {
	rules  map[string]matcher
	tokens []api.Token
	wrong  int
	known  map[string][]int
}

func (o *oracle) fail(at int) []int {
	o.wrong = max(o.wrong, at)
	return nil
}

// one answers what takes one token, if it is as asked.
func one(ask func(t api.Token) bool) matcher {
	return func(o *oracle, at int) []int {
		if o.tokens[at].Kind != api.TokEnd && ask(o.tokens[at]) {
			return []int{at + 1}
		}
		return o.fail(at)
	}
}

func kindOf(kind int, ask func(t api.Token) bool) matcher {
	return one(func(t api.Token) bool { return t.Kind == kind && ask(t) })
}

func upTo(least, most uint64) matcher {
	return kindOf(api.TokInt, func(t api.Token) bool { return least <= t.N && t.N <= most })
}

func textOf(size int) matcher {
	return kindOf(api.TokStr, func(t api.Token) bool { return len(t.Text) <= size })
}

func nameBut(not string) matcher {
	return kindOf(api.TokName, func(t api.Token) bool { return ident(t.Text) && !among(not, t.Text) })
}

func literal(text string) matcher {
	return one(func(t api.Token) bool { return (t.Kind == api.TokName || t.Kind == api.TokSign) && t.Text == text })
}

// full takes names with dots between, the first of them none of those; a dot may be ahead, and then any name behind it.
func full(dotted bool, not string) matcher {
	return func(o *oracle, at int) []int {
		name := nameBut(not)
		if dotted && o.tokens[at].Kind == api.TokSign && o.tokens[at].Text == "." {
			at++
			name = nameBut("")
		}
		size := -1
		for {
			next := name(o, at)
			if next == nil || size+1+len(o.tokens[at].Text) > 1000 {
				return o.fail(at)
			}
			size += 1 + len(o.tokens[at].Text)
			at++
			if t := o.tokens[at]; t.Kind != api.TokSign || t.Text != "." || size+2 > 1000 {
				return []int{at}
			}
			at++
			name = nameBut("")
		}
	}
}

// either answers what takes what one of them takes.
func either(l ...matcher) matcher {
	return func(o *oracle, at int) []int {
		var ends []int
		for _, m := range l {
			for _, end := range m(o, at) {
				if !slices.Contains(ends, end) {
					ends = append(ends, end)
				}
			}
		}
		return ends
	}
}

// row answers what takes what they take, one behind the other.
func row(l ...matcher) matcher {
	return func(o *oracle, at int) []int {
		ends := []int{at}
		for _, m := range l {
			var next []int
			for _, end := range ends {
				next = append(next, m(o, end)...)
			}
			ends = next
		}
		return ends
	}
}

func nothing(o *oracle, at int) []int { return []int{at} }

// many answers what takes it as often as one likes.
func many(m matcher) matcher {
	return func(o *oracle, at int) []int {
		ends, seen := []int{at}, map[int]bool{at: true}
		for i := 0; i < len(ends); i++ {
			for _, end := range m(o, ends[i]) {
				if !seen[end] {
					seen[end] = true
					ends = append(ends, end)
				}
			}
		}
		return ends
	}
}

// terminals are the words of rules that stand for tokens.
func terminals() map[string]matcher {
	types := either(full(true, keywords+" "+plain), kindOf(api.TokName, func(t api.Token) bool { return among(plain, t.Text) }))
	return map[string]matcher{
		"NAME":     nameBut(""),
		"VALUE":    nameBut("option reserved"),
		"FULL":     full(false, ""),
		"REF":      full(true, ""),
		"TYPE":     types,
		"EXTENDEE": full(true, keywords+" "+plain),
		"KEY":      kindOf(api.TokName, func(t api.Token) bool { return among(plain, t.Text) }),
		"SYNTAX":   kindOf(api.TokStr, func(t api.Token) bool { return among("proto2 proto3", t.Text) }),
		"PATH":     textOf(1000),
		"TEXT":     textOf(10000),
		"WORD":     kindOf(api.TokStr, func(t api.Token) bool { return ident(t.Text) }),
		"INT":      upTo(0, 1<<64-1),
		"MINUS":    upTo(1, 1<<63),
		"NUMBER":   upTo(0, 1<<31-1),
		"BELOW":    upTo(0, 1<<31),
		"MAP": func(o *oracle, at int) []int {
			if t := o.tokens[at]; t.Kind == api.TokName && t.Text == "map" && o.tokens[at+1].Text == "<" {
				return []int{at + 1}
			}
			return o.fail(at)
		},
		"END": func(o *oracle, at int) []int {
			if o.tokens[at].Kind == api.TokEnd {
				return []int{at + 1}
			}
			return o.fail(at)
		},
	}
}

// named answers what takes what the rule of a name takes.
func named(name string) matcher {
	return func(o *oracle, at int) []int {
		key := fmt.Sprint(name, at)
		if ends, is := o.known[key]; is {
			return ends
		}
		ends := o.rules[name](o, at)
		o.known[key] = ends
		return ends
	}
}

// readRules answers a matcher for each rule.
func readRules() map[string]matcher {
	read := terminals()
	for _, line := range strings.Split(strings.TrimSpace(rules), "\n") {
		name, right, _ := strings.Cut(line, "=")
		words := regexp.MustCompile(`"[^"]*"|[A-Za-z]+|[][(){}|]`).FindAllString(right, -1)
		read[strings.TrimSpace(name)] = readChoice(&words)
	}
	return read
}

func readChoice(words *[]string) matcher {
	var choices, parts []matcher
	for len(*words) > 0 {
		word := (*words)[0]
		*words = (*words)[1:]
		switch {
		case word == "|":
			choices, parts = append(choices, row(parts...)), nil
		case word == "(":
			parts = append(parts, readChoice(words))
		case word == "[":
			parts = append(parts, either(readChoice(words), nothing))
		case word == "{":
			parts = append(parts, many(readChoice(words)))
		case strings.Contains(")]}", word):
			return either(append(choices, row(parts...))...)
		case word[0] == '"':
			parts = append(parts, literal(word[1:len(word)-1]))
		default:
			parts = append(parts, named(word))
		}
	}
	return either(append(choices, row(parts...))...)
}

var allRules = readRules()

// judge answers what the rules say of tokens: the first that fits no continuation, or the brace that is one too many.
func judge(tokens []api.Token) (int, api.Errno) {
	o := &oracle{rules: allRules, tokens: tokens, wrong: -1, known: map[string][]int{}}
	if len(allRules["file"](o, 0)) > 0 {
		o.wrong = len(tokens)
	}
	open := 0
	for i, t := range tokens[:o.wrong] {
		if t.Kind != api.TokSign {
			continue
		}
		if open += strings.Count(t.Text, "{") - strings.Count(t.Text, "}"); open > 30 {
			return i, api.ErrDeep
		}
	}
	if o.wrong < len(tokens) {
		return o.wrong, api.ErrSyntax
	}
	return 0, api.OK
}

// holdTokens holds Tokens against the rules; it answers the place of the token that is wrong in the list.
func holdTokens(t *testing.T, what string, tokens []api.Token) (int, api.Errno) {
	t.Helper()
	wrong, want := judge(tokens)
	n, at, err := parse.Tokens(tokens)
	if err == api.ErrLong && want == api.OK {
		if at != 0 || n.Kind != 0 {
			t.Errorf("%.300q: too long, at %d", what, at)
		}
		return wrong, want
	}
	place := 0
	if want != api.OK {
		place = tokens[wrong].At
	}
	if err != want || at != place {
		t.Errorf("%.300q: %d at %d, want %d at %d", what, err, at, want, place)
	}
	if err == api.OK && !node.Check(n) {
		t.Errorf("%.300q: Check refuses what it comes to", what)
	}
	if err != api.OK && !node.Same(n, api.Node{}) {
		t.Errorf("%.300q: a node beside an error", what)
	}
	return wrong, want
}

// holdSource holds File, and Tokens of what lex.Scan answers.
func holdSource(t *testing.T, s string) (int, api.Errno) {
	t.Helper()
	tokens, at, err := lex.Scan(s)
	n, place, got := parse.File(s)
	if err != api.OK {
		if got != err || place != at || !node.Same(n, api.Node{}) {
			t.Errorf("%.300q: File is %d at %d, want %d at %d", s, got, place, err, at)
		}
		return 0, err
	}
	tree, at, err := parse.Tokens(tokens)
	if got != err || place != at || !node.Same(n, tree) {
		t.Errorf("%.300q: File and Tokens part", s)
	}
	return holdTokens(t, s, tokens)
}

// vocabulary has each word of the rules and some of each other kind of token.
func vocabulary() []string {
	words := regexp.MustCompile(`"[^"]*"`).FindAllString(rules, -1)
	for i, word := range words {
		words[i] = strings.Trim(word, `"`)
	}
	words = append(words, "a", "int32", "map", "default", "'proto2'", "'a'", "'a b'", "0", "7", "2147483648", "9223372036854775809")
	slices.Sort(words)
	return slices.Compact(words)
}

// P8.2: each token behind each beginning that may be, as far as these go.
func TestEachToken(t *testing.T) {
	words := vocabulary()
	right, wrong := 0, 0
	var down func(begin string, left int)
	down = func(begin string, left int) {
		for _, word := range words {
			s := begin + " " + word
			tokens, _, err := lex.Scan(s)
			if err != api.OK {
				t.Fatal(s)
			}
			place, e := holdTokens(t, s, tokens)
			// What may go on fits up to the end.
			if fits := e == api.OK || place == len(tokens)-1; fits && left > 1 {
				down(s, left-1)
			}
			if e == api.OK {
				right++
			} else {
				wrong++
			}
		}
	}
	for begin, left := range map[string]int{
		"": 3, "syntax = 'proto2' ;": 3, "import public": 3, "package a ;": 3, "package a . b": 3, "option": 3, "option a =": 3,
		"option a = {": 3, "option a = { a": 3, "option a = { a : 1": 3, "option ( a )": 3,
		"message A {": 4, "message A { optional": 3, "message A { a . b": 3, "message A { int32": 3, "message A { int32 a = 1": 3, "message A { map": 3, "message A { map < int32": 4,
		"message A { map < int32 , a > b =": 3, "message A { reserved": 4, "message A { extensions 1": 4, "message A { oneof a {": 3, "message A { int32 a = 1 [ a = 1": 3,
		"message A { } ;": 2, "enum A {": 4, "enum A { a =": 4, "enum A { a = - 1": 3, "extend": 3, "extend a {": 3, "service A {": 3,
		"service A { rpc A (": 4, "service A { rpc A ( a ) returns (": 4, "service A { rpc A ( a ) returns ( a )": 4, "service A { rpc A ( a ) returns ( a ) { option a = 1 ;": 3,
	} {
		down(begin, left)
	}
	if right < 300 || wrong < 10000 {
		t.Errorf("%d are right, %d wrong", right, wrong)
	}
}
