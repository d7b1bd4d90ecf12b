package lex_test

import (
	"math"
	"reflect"
	"regexp"
	"slices"
	"strconv"
	"strings"
	"testing"

	"glossary/api"
	"glossary/lex"
	"glossary/quote"
)

func name(text string, at int) api.Token {
	return api.Token{Kind: api.TokName, Text: text, At: at}
}

func number(n uint64, at int) api.Token {
	return api.Token{Kind: api.TokInt, N: n, At: at}
}

func text(text string, at int) api.Token {
	return api.Token{Kind: api.TokStr, Text: text, At: at}
}

func sign(text string, at int) api.Token {
	return api.Token{Kind: api.TokSign, Text: text, At: at}
}

// scans holds Scan of s against tokens, to which its end is put.
func scans(t *testing.T, s string, want ...api.Token) {
	t.Helper()
	want = append(want, api.Token{Kind: api.TokEnd, At: len(s)})
	got, at, err := lex.Scan(s)
	if !slices.Equal(got, want) || at != 0 || err != api.OK {
		t.Errorf("Scan(%q) = %+v, %d, %d, want %+v, 0, OK", s, got, at, err, want)
	}
}

// refuses holds Scan of s against an error at that place.
func refuses(t *testing.T, s string, at int, want api.Errno) {
	t.Helper()
	got, place, err := lex.Scan(s)
	if len(got) != 0 || place != at || err != want {
		t.Errorf("Scan(%q) = %+v, %d, %d, want none, %d, %d", s, got, place, err, at, want)
	}
}

// P5.1: the chapter's example, and a source of all kinds.
func TestScan(t *testing.T) {
	scans(t, "a = 0x10; // b", name("a", 0), sign("=", 2), number(16, 4), sign(";", 8))
	scans(t, "")
	scans(t, " \t\n\v\f\r ")
	scans(t, `option (x.y) = {n: -017, s: 'it'};`,
		name("option", 0), sign("(", 7), name("x", 8), sign(".", 9), name("y", 10), sign(")", 11), sign("=", 13), sign("{", 15),
		name("n", 16), sign(":", 17), sign("-", 19), number(15, 20), sign(",", 23), name("s", 25), sign(":", 26), text("it", 28), sign("}", 32), sign(";", 33))
	scans(t, "map<a,b>x[1]", name("map", 0), sign("<", 3), name("a", 4), sign(",", 5), name("b", 6), sign(">", 7), name("x", 8), sign("[", 9), number(1, 10), sign("]", 11))
}

// P5.1: every byte, alone, among names and ahead of a newline.
func TestScanEveryByte(t *testing.T) {
	for c := range 256 {
		s := string([]byte{byte(c)})
		switch {
		case strings.Contains(" \t\n\v\f\r", s):
			scans(t, s)
			scans(t, "a"+s+"b", name("a", 0), name("b", 2))
		case strings.Contains(";,.={}[]()<>:-", s):
			scans(t, s, sign(s, 0))
			scans(t, s+s, sign(s, 0), sign(s, 1))
			scans(t, "a"+s+"b", name("a", 0), sign(s, 1), name("b", 2))
		case s >= "0" && s <= "9":
			scans(t, s, number(uint64(c-'0'), 0))
			scans(t, "a"+s+"b", name("a"+s+"b", 0))
		case s == "_" || s >= "a" && s <= "z" || s >= "A" && s <= "Z":
			scans(t, s, name(s, 0))
			scans(t, "a"+s+"0", name("a"+s+"0", 0))
		case s == "'" || s == `"`:
			refuses(t, s, 1, api.ErrQuote)
			scans(t, "a"+s+"b"+s+"c", name("a", 0), text("b", 1), name("c", 4))
		default:
			refuses(t, s, 0, api.ErrToken)
			refuses(t, "a"+s+"b", 1, api.ErrToken)
			refuses(t, "a\n "+s+"\n", 3, api.ErrToken)
		}
	}
}

// P5.1: runs are the longest there are; a digit ahead makes a number.
func TestScanRuns(t *testing.T) {
	for _, s := range []string{"a", "_", "__", "a1", "_1", "a_b_0", "Az09_", "x0x10", "message", strings.Repeat("a", 1000)} {
		scans(t, s, name(s, 0))
		scans(t, " "+s+"."+s, name(s, 1), sign(".", 1+len(s)), name(s, 2+len(s)))
	}
	for s, n := range map[string]uint64{
		"0": 0, "00": 0, "7": 7, "10": 10, "017": 15, "0x1F": 31, "0XaB": 171,
		"18446744073709551615": math.MaxUint64, "0xffffffffffffffff": math.MaxUint64, "01777777777777777777777": math.MaxUint64,
	} {
		scans(t, s, number(n, 0))
		scans(t, "-"+s+"-", sign("-", 0), number(n, 1), sign("-", 1+len(s)))
		scans(t, s+"."+s, number(n, 0), sign(".", len(s)), number(n, 1+len(s)))
	}
	for _, s := range []string{"08", "09", "1a", "0x", "0X", "0xg", "1_0", "0_", "5e3", "0b1", "0x1G", "12_", "18446744073709551616", "0x10000000000000000", "02000000000000000000000"} {
		refuses(t, s, 0, api.ErrNumber)
		refuses(t, "a = "+s+";", 4, api.ErrNumber)
	}
}

// P5.1: quoted texts are what they mean, each a token of its own; its error's place is one of the source.
func TestScanTexts(t *testing.T) {
	scans(t, `""`, text("", 0))
	scans(t, `'a'"b"`, text("a", 0), text("b", 3))
	scans(t, `"a\x41\101\u20AC" b`, text("aAA\u20ac", 0), name("b", 18))
	scans(t, "'//' \"/* \\n */\"", text("//", 0), text("/* \n */", 5))
	scans(t, "'\t\xff' x", text("\t\xff", 0), name("x", 5))
	for s, at := range map[string]int{"a 'b": 4, "a 'b\"": 5, "a\n'b\n'": 4, "a 'b\x00'": 4, `a 'bc\q'`: 5, `'a' '\400'`: 5, "'a' '\\": 5, `x"\ud800"`: 2} {
		refuses(t, s, at, api.ErrQuote)
	}
}

// P5.1: comments stand between tokens, as blanks do.
func TestScanComments(t *testing.T) {
	two := func(s string, b int) {
		t.Helper()
		scans(t, s, name("a", 0), name("b", b))
	}
	two("a//\nb", 4)
	two("a//x /* \nb", 9)
	two("a// \x00#'\xff\nb", 9)
	two("a/**/b", 5)
	two("a/***/b", 6)
	two("a/*/*/b", 6)
	two("a/*//*/b", 7)
	two("a/* \n // \n #'\x00 */b", 17)
	two("a/**//**/b", 9)
	two("a/**///*\nb", 9)
	scans(t, "a//", name("a", 0))
	scans(t, "a// b", name("a", 0))
	scans(t, "a/* b */", name("a", 0))
	scans(t, "/* a */")
	scans(t, "// a\r b")
}

// P5.1: comments that don't end, and a stroke that begins none.
func TestScanCommentsWrong(t *testing.T) {
	for s, at := range map[string]int{"/*": 0, "/*/": 0, "/**": 0, "/* *": 0, "a /* b": 2, "a\n /*\n*": 3, "/**/ /* // \n* /": 5, "a/*/": 1} {
		refuses(t, s, at, api.ErrComment)
	}
	for s, at := range map[string]int{"/": 0, "a /": 2, "a / /": 2, "/ *": 0, "a/b": 1, "/**/ */": 5, "/**//": 4} {
		refuses(t, s, at, api.ErrToken)
	}
}

// P5.1: of several wrong things the first in the source is told.
func TestScanFirstWrong(t *testing.T) {
	refuses(t, "# 09 'a", 0, api.ErrToken)
	refuses(t, "09 # 'a", 0, api.ErrNumber)
	refuses(t, "a 'b\n# 09 /*", 4, api.ErrQuote)
	refuses(t, "a /* 09 # 'b", 2, api.ErrComment)
	refuses(t, "// #\n a #", 8, api.ErrToken)
}

// P5.1: how long a source may be; beyond that nothing else is told.
func TestScanLong(t *testing.T) {
	const most = 100000
	long := strings.Repeat("a", most)
	scans(t, long, name(long, 0))
	scans(t, strings.Repeat(" ", most))
	refuses(t, strings.Repeat(" ", most-1)+"#", most-1, api.ErrToken)
	refuses(t, long+"a", 0, api.ErrLong)
	refuses(t, long+" ", 0, api.ErrLong)
	refuses(t, strings.Repeat("#", most+1), 0, api.ErrLong)
	refuses(t, strings.Repeat("'", 10*most), 0, api.ErrLong)
	refuses(t, "'"+long[1:], most, api.ErrQuote)
	refuses(t, "/*"+long[2:], 0, api.ErrComment)
	if l, _, err := lex.Scan(strings.Repeat(";", most)); len(l) != most+1 || err != api.OK {
		t.Errorf("Scan of many signs = %d, %d", len(l), err)
	}
	if l, _, err := lex.Scan(strings.Repeat("//\n", most/3)); len(l) != 1 || l[0].Doc != strings.Repeat("\n", most/3) || err != api.OK {
		t.Errorf("Scan of many comments = %d, %d", len(l), err)
	}
}

// docs holds the Docs of s's tokens, the end among them, against those that are wanted.
func docs(t *testing.T, s string, want ...string) {
	t.Helper()
	l, _, err := lex.Scan(s)
	var got []string
	for _, token := range l {
		got = append(got, token.Doc)
	}
	if !slices.Equal(got, want) || err != api.OK {
		t.Errorf("Docs of %q = %q, %d, want %q", s, got, err, want)
	}
}

// P5.2: comments right ahead of a token's line.
func TestDocs(t *testing.T) {
	docs(t, "a", "", "")
	docs(t, "// one\n// two\na b", " one\n two\n", "", "")
	docs(t, "//one\na\n//two\nb\n", "one\n", "two\n", "")
	docs(t, " \t\v\f\r// x\r\n\t\v\f\r a", " x\r\n", "")
	docs(t, "//\na", "\n", "")
	docs(t, "//\n//\na", "\n\n", "")
	docs(t, "///\n////* b */\na", "/\n//* b */\n", "")
	docs(t, "// /*\na", " /*\n", "")
	docs(t, "// \x00\xff'\n;", " \x00\xff'\n", "")
	for _, token := range []string{"a", "5", "'x'", ";", "{"} {
		docs(t, "\n// x\n"+token+" "+token, " x\n", "", "")
	}
}

// P5.2: a line between that has no such comment.
func TestDocsApart(t *testing.T) {
	docs(t, "// x\n\na", "", "")
	docs(t, "// x\n \t\na", "", "")
	docs(t, "// x\n\n// y\na", " y\n", "")
	docs(t, "// x\n\n// y\n\na", "", "")
	docs(t, "// x\n/* y */\na", "", "")
	docs(t, "// x\n/* y */\n// z\na", " z\n", "")
	docs(t, "// x\n/*\n*/\na", "", "")
	docs(t, "// x\na\nb", " x\n", "", "")
	docs(t, "// x\n;\n// y\nb", " x\n", " y\n", "")
}

// P5.2: comments that don't have a line of their own, or are none of that kind.
func TestDocsNotOwn(t *testing.T) {
	docs(t, "a // x\nb", "", "", "")
	docs(t, "// w\na // x\nb", " w\n", "", "")
	docs(t, "a // x\n// y\nb", "", " y\n", "")
	docs(t, "// w\n/* v */ // x\na", "", "")
	docs(t, "/* v\n*/ // x\na", "", "")
	docs(t, "/* v\n*/ // x\n// y\na", " y\n", "")
	docs(t, "/* x */\na", "", "")
	docs(t, "/*\n// x\n*/\na", "", "")
	docs(t, "/*\n// x */\na", "", "")
	docs(t, "/*\n// x */\n// y\na", " y\n", "")
	docs(t, "'//x'\na", "", "", "")
}

// P5.2: tokens that aren't their line's first thing.
func TestDocsNotFirst(t *testing.T) {
	docs(t, "// x\n/* y */ a", "", "")
	docs(t, "// x\n/* y */ /**/ a\nb", "", "", "")
	docs(t, "// x\n/* y\n*/ a", "", "")
	docs(t, "// x\n; a", " x\n", "", "")
	docs(t, "// x\na /*\n*/ b\n c", " x\n", "", "", "")
}

// P5.2: the end is a token, too; a comment on its own line isn't ahead of that.
func TestDocsEnd(t *testing.T) {
	docs(t, "// x\n", " x\n")
	docs(t, "// x\n \t", " x\n")
	docs(t, "a\n// x\n// y\n", "", " x\n y\n")
	docs(t, "// x", "")
	docs(t, "// x\n// y", "")
	docs(t, "// x\n\n", "")
	docs(t, "// x\n/* y */", "")
	docs(t, "// x\na", " x\n", "")
}

var (
	gap      = regexp.MustCompile(`\A[ \t\n\v\f\r]+`)
	comment  = regexp.MustCompile(`\A(?:(//)([^\n]*)|/\*(?s:.*?)\*/)`)
	run      = regexp.MustCompile(`\A[A-Za-z0-9_]+`)
	stop     = regexp.MustCompile(`\A[;,.={}\[\]()<>:-]`)
	ownAhead = regexp.MustCompile(`(?:\A|\n)[ \t\v\f\r]*\z`)
)

// expected answers what Scan must, by regular expressions, and without a thought of lines: these come later.
func expected(s string) ([]api.Token, int, api.Errno) {
	var l []api.Token
	own := map[int]string{} // by line: the comments that have one of their own
	first := map[int]int{}  // by line: the place of its first thing
	for at := 0; at < len(s); {
		if _, is := first[lineOf(s, at)]; !is && gap.FindString(s[at:]) == "" {
			first[lineOf(s, at)] = at
		}
		switch rest := s[at:]; {
		case gap.MatchString(rest):
			at += len(gap.FindString(rest))
		case comment.MatchString(rest):
			m := comment.FindStringSubmatch(rest)
			if m[1] != "" && ownAhead.MatchString(s[:at]) && first[lineOf(s, at)] == at {
				own[lineOf(s, at)] = m[2] + "\n"
			}
			at += len(m[0])
			if _, is := first[lineOf(s, at)]; !is {
				first[lineOf(s, at)] = -1
			}
		case strings.HasPrefix(rest, "/*"):
			return nil, at, api.ErrComment
		case run.MatchString(rest):
			r := run.FindString(rest)
			token := name(r, at)
			if r[0] >= '0' && r[0] <= '9' {
				n, is := quote.Number(r)
				if !is {
					return nil, at, api.ErrNumber
				}
				token = number(n, at)
			}
			l = append(l, token)
			at += len(r)
		case rest[0] == '"' || rest[0] == '\'':
			b, size, err := quote.Take(rest)
			if err != api.OK {
				return nil, at + size, err
			}
			l = append(l, text(string(b), at))
			at += size
		case stop.MatchString(rest):
			l = append(l, sign(rest[:1], at))
			at++
		default:
			return nil, at, api.ErrToken
		}
	}
	if _, is := first[lineOf(s, len(s))]; !is {
		first[lineOf(s, len(s))] = len(s)
	}
	l = append(l, api.Token{Kind: api.TokEnd, At: len(s)})
	putDocs(s, l, own, first)
	return l, 0, api.OK
}

// putDocs gives the tokens of s their Docs: going up from a line whose first thing is the token.
func putDocs(s string, l []api.Token, own map[int]string, first map[int]int) {
	for i, token := range l {
		line := lineOf(s, token.At)
		if first[line] != token.At {
			continue
		}
		for line--; own[line] != ""; line-- {
			l[i].Doc = own[line] + l[i].Doc
		}
	}
}

func lineOf(s string, at int) int {
	return len(strings.Split(s[:at], "\n"))
}

// hold holds Scan of s against what is expected.
func hold(t *testing.T, s string) {
	t.Helper()
	got, at, err := lex.Scan(s)
	want, wantAt, wantErr := expected(s)
	if !slices.Equal(got, want) || at != wantAt || err != wantErr {
		t.Errorf("Scan(%q) = %+v, %d, %d, want %+v, %d, %d", s, got, at, err, want, wantAt, wantErr)
	}
}

// P5.1, P5.2: all sources of a few pieces.
func TestScanAll(t *testing.T) {
	pieces := []string{"a", "0", "9", ";", "/", "*", "//", "/*", "*/", "\n", " ", "'", "#"}
	sources := []string{""}
	for range 5 {
		var longer []string
		for _, s := range sources {
			for _, p := range pieces {
				longer = append(longer, s+p)
			}
		}
		for _, s := range longer {
			hold(t, s)
		}
		sources = longer
	}
}

// P5.2: all sources of a few lines.
func TestDocsAll(t *testing.T) {
	lines := []string{"", " ", "//x", " // y", "a", "a//z", "a b", "/*c*/", "/*c*/a", "/*c*///w", "/*", "*/", "*/a", "*///v", "//*/"}
	sources := []string{""}
	for range 4 {
		var longer []string
		for _, s := range sources {
			for _, line := range lines {
				longer = append(longer, s+line+"\n")
				hold(t, s+line)
				hold(t, s+line+"\n")
				hold(t, s+line+"\na")
			}
		}
		sources = longer
	}
}

// P5.3: every place of some texts, and places that are none.
func TestLine(t *testing.T) {
	for _, s := range []string{"", "a", "\n", "ab\ncd", "ab\n", "\n\n", "\r\n\ta\r\n", "\u20ac\n\u20ac\xff\x00b\n\n", strings.Repeat("ab\n\n", 20)} {
		line, column := 1, 1
		for at := range len(s) + 1 {
			places(t, s, at, line, column)
			if at == 0 {
				places(t, s, -1, line, column)
				places(t, s, math.MinInt, line, column)
			}
			if at == len(s) {
				places(t, s, at+1, line, column)
				places(t, s, math.MaxInt, line, column)
				break
			}
			column++
			if s[at] == 10 {
				line, column = line+1, 1
			}
		}
	}
	places(t, "ab\ncd", 4, 2, 2)
	places(t, "ab\ncd", 99, 2, 3)
}

// places holds Line and Place against a line and a column.
func places(t *testing.T, s string, at, line, column int) {
	t.Helper()
	if l, c := lex.Line(s, at); l != line || c != column {
		t.Errorf("Line(%q, %d) = %d, %d, want %d, %d", s, at, l, c, line, column)
	}
	if p := lex.Place(s, at); p != complex(float64(line), float64(column)) {
		t.Errorf("Place(%q, %d) = %v, want %d, %d", s, at, p, line, column)
	}
}

// P5.3: texts longer than a source may be have lines all the same.
func TestLineLong(t *testing.T) {
	many := strings.Repeat("\n", 3*api.MaxSource)
	places(t, many, len(many)-1, len(many), 1)
	places(t, many, math.MaxInt, len(many)+1, 1)
	one := strings.Repeat("a", 3*api.MaxSource)
	places(t, one, math.MaxInt, 1, len(one)+1)
}

// P5.4: text as comments.
func TestDoc(t *testing.T) {
	for text, want := range map[string]string{
		"":          "",
		"a":         "//a\n",
		"a\n":       "//a\n",
		" a\nb":     "// a\n//b\n",
		" a\nb\n":   "// a\n//b\n",
		"\n":        "//\n",
		"\n\n":      "//\n//\n",
		"a\n\n":     "//a\n//\n",
		"\na":       "//\n//a\n",
		"a\r\nb":    "//a\r\n//b\n",
		"a\rb\vc":   "//a\rb\vc\n",
		"//\n*/":    "////\n//*/\n",
		"\x00\xff'": "//\x00\xff'\n",
	} {
		if got := lex.Doc(text); got != want {
			t.Errorf("Doc(%q) = %q, want %q", text, got, want)
		}
	}
}

// P5.4: a long text has as many comments as lines.
func TestDocLong(t *testing.T) {
	if got := lex.Doc(strings.Repeat("a\n", 500000)); got != strings.Repeat("//a\n", 500000) {
		t.Errorf("Doc of many lines has %d bytes", len(got))
	}
	if got := lex.Doc(strings.Repeat("a", 500000)); len(got) != 500003 {
		t.Errorf("Doc of a long line has %d bytes", len(got))
	}
}

// back holds P5.5 for a text: what doesn't end with the byte 10 comes back as if it did.
func back(t *testing.T, text, behind string) {
	t.Helper()
	doc := lex.Doc(text)
	if text != "" && !strings.HasSuffix(text, "\n") {
		text += "\n"
	}
	token := name(behind, len(doc))
	token.Doc = text
	want := []api.Token{token, {Kind: api.TokEnd, At: len(doc) + len(behind)}}
	got, at, err := lex.Scan(doc + behind)
	if !slices.Equal(got, want) || at != 0 || err != api.OK {
		t.Errorf("Scan(%q) = %+v, %d, %d, want %+v, 0, OK", doc+behind, got, at, err, want)
	}
}

// P5.5: Scan of Doc and a name.
func TestBack(t *testing.T) {
	texts := []string{"", " a\n", "a\nb\n", "\n", "\n\n\n", "\r\n", " \t\n a\n", "/*\n", "*/\n//\n", "'\n\"\n", "\x00#\xff\n", "\u20ac\n"}
	for _, a := range texts {
		back(t, a, "n")
		for _, b := range texts {
			back(t, a+b, "message")
			back(t, a+b+"c", "_1")
		}
	}
	for c := range 256 {
		back(t, string([]byte{byte(c)})+"\n", "x")
	}
}

// P2, P3: no answer is another's memory, and each is the same again.
func TestMemory(t *testing.T) {
	const s = "// x\na = 'b'; // c\n"
	want, _, _ := lex.Scan(s)
	a, _, _ := lex.Scan(s)
	b, _, _ := lex.Scan(s)
	a = a[:cap(a)]
	for i := range a {
		a[i] = api.Token{Kind: -1, Text: strconv.Itoa(i)}
	}
	if !reflect.DeepEqual(b, want) {
		t.Errorf("Scan shares memory: %+v", b)
	}
}

func FuzzScan(f *testing.F) {
	for _, s := range []string{"", "a = 0x10; // b", "// x\na 'b' /* c */", "/*\n// x */\n;", "09", "a 'b", "\xff"} {
		f.Add(s, 0)
	}
	f.Fuzz(func(t *testing.T, s string, at int) {
		if len(s) > api.MaxSource {
			return
		}
		hold(t, s)
		before := s[:min(max(at, 0), len(s))]
		lines := strings.Split(before, "\n")
		places(t, s, at, len(lines), 1+len(lines[len(lines)-1]))
	})
}

func FuzzBack(f *testing.F) {
	for _, s := range []string{"", " a\nb\n", "\r\n", "*/", "\x00\xff\n"} {
		f.Add(s)
	}
	f.Fuzz(func(t *testing.T, text string) {
		if len(lex.Doc(text)) < api.MaxSource {
			back(t, text, "a")
		}
	})
}
