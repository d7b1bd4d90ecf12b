package quote_test

import (
	"bytes"
	"fmt"
	"math"
	"math/big"
	"regexp"
	"strconv"
	"strings"
	"testing"
	"unicode/utf8"

	"glossary/api"
	"glossary/quote"
)

// edges answers numbers at the edges of lengths in all bases, and of what may be.
func edges() []uint64 {
	l := []uint64{0, math.MaxUint64, math.MaxUint64 / 10, math.MaxUint64 / 10 * 10, 1 << 63, 12345678901234567890}
	for n, i := uint64(1), 0; i < 20; n, i = n*10, i+1 {
		l = append(l, n-1, n, n+1)
	}
	for i := range 64 {
		l = append(l, 1<<i-1, 1<<i, 1<<i+1)
	}
	return l
}

// allBytes answers every byte, once.
func allBytes() []byte {
	b := make([]byte, 256)
	for i := range b {
		b[i] = byte(i)
	}
	return b
}

// tails answers texts that may stand behind a quoted one.
func tails() []string {
	return []string{"", " ", "b", "\"", "'", "\\", "\n", "\x00", "7", "\"x\"", "\xff"}
}

// signOf says what the chapter says about one byte, by the library's means.
func signOf(c byte) string {
	switch {
	case strings.IndexByte("\"\\", c) >= 0:
		return "\\" + string(rune(c))
	case c == 9:
		return `\t`
	case c == 10:
		return `\n`
	case c == 13:
		return `\r`
	case c >= 32 && c <= 126:
		return string(rune(c))
	}
	return fmt.Sprintf(`\%03o`, c)
}

// P4.1: the chapter's own words, byte by byte, alone and ahead of a digit.
func TestTextEveryByte(t *testing.T) {
	all := ""
	for _, c := range allBytes() {
		if got, want := quote.Text([]byte{c}), `"`+signOf(c)+`"`; got != want {
			t.Errorf("Text(%#x) = %s, want %s", c, got, want)
		}
		if got, want := quote.Text([]byte{c, '7', c}), `"`+signOf(c)+"7"+signOf(c)+`"`; got != want {
			t.Errorf("Text(%#x 7) = %s, want %s", c, got, want)
		}
		all += signOf(c)
	}
	if got := quote.Text(allBytes()); got != `"`+all+`"` {
		t.Errorf("Text of all bytes = %s", got)
	}
}

// P4.1: written out.
func TestText(t *testing.T) {
	cases := []struct{ b, want string }{
		{"", `""`},
		{"a", `"a"`},
		{"it's", `"it's"`},
		{"a?b", `"a?b"`},
		{"a\"b\\c", `"a\"b\\c"`},
		{"\t\n\r", `"\t\n\r"`},
		{"\a\b\v\f", `"\007\010\013\014"`},
		{"\x00\x01\x1f ~\x7f\x80\xff", `"\000\001\037 ~\177\200\377"`},
		{"\u20ac", `"\342\202\254"`},
	}
	for _, c := range cases {
		if got := quote.Text([]byte(c.b)); got != c.want {
			t.Errorf("Text(%q) = %s, want %s", c.b, got, c.want)
		}
	}
}

// takes holds Take of s, with all that may stand behind, against what is wanted.
func takes(t *testing.T, s, want string) {
	t.Helper()
	for _, tail := range tails() {
		b, size, err := quote.Take(s + tail)
		if string(b) != want || size != len(s) || err != api.OK {
			t.Errorf("Take(%q) = %q, %d, %d, want %q, %d, OK", s+tail, b, size, err, want, len(s))
		}
	}
}

// refuses holds Take of s against an error at that place.
func refuses(t *testing.T, s string, at int) {
	t.Helper()
	b, place, err := quote.Take(s)
	if len(b) != 0 || place != at || err != api.ErrQuote {
		t.Errorf("Take(%q) = %q, %d, %d, want none, %d, ErrQuote", s, b, place, err, at)
	}
}

// within takes what stands within quotes, in both kinds of them and with others about it.
func within(t *testing.T, inner, want string) {
	t.Helper()
	for _, q := range []string{`"`, `'`} {
		takes(t, q+inner+q, want)
		takes(t, q+"z"+inner+inner+"-"+q, "z"+want+want+"-")
	}
}

// withinWrong refuses what stands within quotes, at its byte at.
func withinWrong(t *testing.T, inner string, at int) {
	t.Helper()
	for _, q := range []string{`"`, `'`} {
		refuses(t, q+inner+q, 1+at)
		refuses(t, q+"z\u20ac"+inner+q, 5+at)
		refuses(t, q+`\n\x41`+inner+"rest"+q, 7+at)
	}
}

// P4.2: the chapter's example.
func TestTakeExample(t *testing.T) {
	b, size, err := quote.Take(`"a\x41\101\u20AC" b`)
	if string(b) != "aAA\xe2\x82\xac" || size != 17 || err != api.OK {
		t.Errorf("Take = % x, %d, %d", b, size, err)
	}
}

// P4.2: the quotes.
func TestTakeQuotes(t *testing.T) {
	takes(t, `""`, "")
	takes(t, `''`, "")
	takes(t, `"'"`, "'")
	takes(t, `'"'`, `"`)
	takes(t, `"it's"`, "it's")
	takes(t, `'say "a"'`, `say "a"`)
	takes(t, `"\""`, `"`)
	takes(t, `'\''`, "'")
	takes(t, `"\\"`, `\`)
	takes(t, `'\\\''`, `\'`)
}

// P4.2: every byte within quotes, as it is.
func TestTakePlain(t *testing.T) {
	for _, c := range allBytes() {
		inner := string([]byte{c})
		switch c {
		case 0, 10:
			withinWrong(t, inner, 0)
		case '\\':
			refuses(t, `"a\`, 2)
		case '"':
			takes(t, "'a\"b'", "a\"b")
		case '\'':
			takes(t, "\"a'b\"", "a'b")
		default:
			within(t, inner, inner)
		}
	}
}

// P4.2: every byte behind a backslash, with digits of other kinds behind it.
func TestTakeSigns(t *testing.T) {
	meant := map[byte]byte{'a': 7, 'b': 8, 'f': 12, 'n': 10, 'r': 13, 't': 9, 'v': 11, '\\': '\\', '\'': '\'', '"': '"', '?': '?'}
	for _, c := range allBytes() {
		inner := `\` + string([]byte{c})
		switch m, is := meant[c]; {
		case is:
			within(t, inner, string([]byte{m}))
			within(t, inner+"1", string([]byte{m, '1'}))
		case c >= '0' && c <= '7':
			within(t, inner, string([]byte{c - '0'}))
			within(t, inner+"8", string([]byte{c - '0', '8'}))
		case c != 'x' && c != 'X' && c != 'u' && c != 'U':
			withinWrong(t, inner, 0)
			withinWrong(t, inner+"00000000", 0)
		default:
			withinWrong(t, inner, 0)
			withinWrong(t, inner+"g0000000", 0)
		}
	}
}

// P4.2: octal digits, as many as there are of three.
func TestTakeOctal(t *testing.T) {
	for n := range 512 {
		for digits := range 3 {
			inner := fmt.Sprintf(`\%0*o`, digits+1, n)
			switch {
			case len(inner) > 4:
			case n > 255:
				withinWrong(t, inner, 0)
				withinWrong(t, inner+"1", 0)
			default:
				want := string([]byte{byte(n)})
				within(t, inner, want)
				within(t, inner+"8", want+"8")
				within(t, inner+"a", want+"a")
				if len(inner) == 4 {
					within(t, inner+"7", want+"7")
				}
			}
		}
	}
}

// P4.2: one or two hexadecimal digits, small letters and great ones.
func TestTakeHex(t *testing.T) {
	for n := range 256 {
		for _, form := range []string{`\x%02x`, `\x%02X`, `\X%02x`, `\X%02X`} {
			inner, want := fmt.Sprintf(form, n), string([]byte{byte(n)})
			within(t, inner, want)
			within(t, inner+"a", want+"a")
			within(t, inner+"0", want+"0")
		}
	}
	for n := range 16 {
		for _, form := range []string{`\x%x`, `\x%X`, `\X%x`, `\X%X`} {
			inner, want := fmt.Sprintf(form, n), string([]byte{byte(n)})
			within(t, inner, want)
			within(t, inner+"g", want+"g")
			within(t, inner+"G", want+"G")
			within(t, inner+"-0", want+"-0")
		}
	}
	for _, inner := range []string{`\x`, `\X`, `\xg`, `\xG`, `\x `, `\x-1`, `\x+1`, `\x_1`, `\x@`, "\\x`", `\x/`, `\x:`, `\xx`, `\x\x41`} {
		withinWrong(t, inner, 0)
	}
}

// P4.2: characters of four and eight digits, and numbers that are none.
func TestTakeCharacter(t *testing.T) {
	for _, n := range []uint32{0, 10, 'a', 0x7F, 0x80, 0x7FF, 0x800, 0x20AC, 0xD7FF, 0xE000, 0xFFFD, 0xFFFF} {
		for _, form := range []string{`\u%04x`, `\u%04X`, `\U%08x`, `\U%08X`} {
			inner, want := fmt.Sprintf(form, n), string(rune(n))
			within(t, inner, want)
			within(t, inner+"0", want+"0")
			within(t, inner+"f", want+"f")
		}
	}
	for _, n := range []uint32{0x10000, 0x1F600, 0x100000, 0x10FFFF} {
		within(t, fmt.Sprintf(`\U%08x`, n), string(rune(n)))
	}
	for _, n := range []uint32{0xD800, 0xDBFF, 0xDC00, 0xDFFF} {
		withinWrong(t, fmt.Sprintf(`\u%04x`, n), 0)
		withinWrong(t, fmt.Sprintf(`\U%08x`, n), 0)
	}
	for _, n := range []uint32{0x110000, 0x1000041, 0x7FFFFFFF, 0x80000000, 0x80000041, 0xFFFFFFFE, 0xFFFFFFFF} {
		withinWrong(t, fmt.Sprintf(`\U%08x`, n), 0)
	}
	withinWrong(t, `\ud83d\ude00`, 0)
	for _, inner := range []string{`\u`, `\u1`, `\u12`, `\u123`, `\u123g`, `\ug123`, `\u 123`, `\u+123`, `\u{41}`} {
		withinWrong(t, inner, 0)
	}
	for _, inner := range []string{`\U`, `\U1`, `\U0000`, `\U0001F60`, `\U0001F60g`, `\Ug001F600`, `\U-0000001`} {
		withinWrong(t, inner, 0)
	}
}

// P4.2: no quoted text begins.
func TestTakeNoBeginning(t *testing.T) {
	for _, s := range []string{"", "a", " \"a\"", "\\\"a\"", "`a`", "\n'a'", "\x00", "\x00\"a\"", "\xe2\x80\x9ca\xe2\x80\x9d", "5", "\\"} {
		refuses(t, s, 0)
	}
}

// P4.2: the end of s, within plain bytes and within what a backslash begins.
func TestTakeEnd(t *testing.T) {
	for s, at := range map[string]int{
		`"`: 1, `'`: 1, `"a`: 2, `'ab`: 3, `"ab'`: 4, `'ab"`: 4, `"\"`: 3, `'\'`: 3, `"\\`: 3, "\"\u20ac": 4,
		`"\n`: 3, `"\1`: 3, `"\12`: 4, `"\101`: 5, `"\x4`: 4, `"\x41`: 5, `"\u20ac`: 7, `"\U0001F600`: 11,
		`"\`: 1, `"a\`: 2, `'a\n\`: 4, `"\x`: 1, `"\X`: 1, `"\u`: 1, `"\u20A`: 1, `"\U`: 1, `"\U0001F60`: 1, `"\400`: 1, `"\ud800`: 1,
	} {
		refuses(t, s, at)
	}
}

// P4.2: of several things that are wrong the first one is told.
func TestTakeFirstWrong(t *testing.T) {
	for s, at := range map[string]int{
		"'a\x00\n\\q": 2, "'a\n\x00\\q": 2, "'a\\q\n'": 2, "'\\\n'": 1, "'\\\x00'": 1, "'\\x\n'": 1, "'\\u12\n4'": 1,
		"'\\x4\n'": 4, "'\\1\x00'": 3, "'\\q\\q'": 1, "'\\a\\q'": 3, "'a\"\n": 3, "\"a'\n'": 3,
	} {
		refuses(t, s, at)
	}
}

// piece is what may stand within quotes, at a text's beginning, as the chapter lists it; the longest there is.
var piece = regexp.MustCompile(`^(?s:\\[abfnrtv\\'"?]|\\[0-7]{1,3}|\\[xX][0-9a-fA-F]{1,2}|\\u[0-9a-fA-F]{4}|\\U[0-9a-fA-F]{8}|[^\x00\n\\])`)

// expected answers what Take must, by regular expressions.
func expected(s string) (string, int, api.Errno) {
	if !strings.HasPrefix(s, `"`) && !strings.HasPrefix(s, `'`) {
		return "", 0, api.ErrQuote
	}
	b := ""
	for at := 1; ; {
		if strings.HasPrefix(s[at:], s[:1]) {
			return b, at + 1, api.OK
		}
		p := piece.FindString(s[at:])
		meant, is := meaning(p)
		if !is {
			return "", at, api.ErrQuote
		}
		b += meant
		at += len(p)
	}
}

func meaning(p string) (string, bool) {
	switch {
	case len(p) == 0:
		return "", false
	case p[0] != '\\':
		return p, true
	case p[1] >= '0' && p[1] <= '7':
		n, err := strconv.ParseUint(p[1:], 8, 8)
		return string([]byte{byte(n)}), err == nil
	case p[1] == 'x' || p[1] == 'X':
		n, err := strconv.ParseUint(p[2:], 16, 8)
		return string([]byte{byte(n)}), err == nil
	case p[1] == 'u' || p[1] == 'U':
		n, err := strconv.ParseUint(p[2:], 16, 31)
		return string(rune(n)), err == nil && utf8.ValidRune(rune(n))
	case p[1] == '?':
		return "?", true
	}
	// The rest Go writes alike, though it knows but one of the two quotes in a text.
	c, _, _, err := strconv.UnquoteChar(p, p[1])
	return string(c), err == nil
}

// hold holds Take of s against what is expected.
func hold(t *testing.T, s string) {
	t.Helper()
	b, n, err := quote.Take(s)
	want, wantN, wantErr := expected(s)
	if string(b) != want || n != wantN || err != wantErr {
		t.Errorf("Take(%q) = %q, %d, %d, want %q, %d, %d", s, b, n, err, want, wantN, wantErr)
	}
}

// P4.2: all texts of a few signs.
func TestTakeAll(t *testing.T) {
	parts := []string{`\`, `"`, `'`, "x", "u", "U", "1", "4", "8", "d", "00", "\n", "\x00", "\xff"}
	texts := []string{""}
	for range 4 {
		var longer []string
		for _, s := range texts {
			for _, p := range parts {
				longer = append(longer, s+p)
			}
		}
		for _, s := range longer {
			hold(t, s)
			hold(t, `"`+s)
			hold(t, `'\`+s+`'`)
		}
		texts = longer
	}
}

// P4.3: numbers in every base.
func TestNumberBases(t *testing.T) {
	for _, n := range edges() {
		decimal := strconv.FormatUint(n, 10)
		octal := strconv.FormatUint(n, 8)
		hex := strconv.FormatUint(n, 16)
		for _, s := range []string{
			decimal, "0" + octal, "000" + octal, "0x" + hex, "0X" + hex, "0x" + strings.ToUpper(hex), "0x000" + hex,
			"0" + strings.Repeat("0", 100) + octal, "0X" + strings.Repeat("0", 100) + hex,
		} {
			if got, is := quote.Number(s); got != n || !is {
				t.Errorf("Number(%s) = %d, %v, want %d, true", s, got, is, n)
			}
		}
	}
}

// P4.3: written out.
func TestNumber(t *testing.T) {
	cases := []struct {
		s    string
		want uint64
	}{
		{"0", 0}, {"00", 0}, {"000", 0}, {"0x0", 0}, {"0X0", 0}, {"01", 1}, {"017", 15}, {"0017", 15}, {"17", 17},
		{"0x17", 23}, {"0xfF", 255}, {"0XaBcDeF", 0xABCDEF}, {"1234567890", 1234567890},
		{"18446744073709551615", math.MaxUint64}, {"0xffffffffffffffff", math.MaxUint64}, {"01777777777777777777777", math.MaxUint64},
	}
	for _, c := range cases {
		if got, is := quote.Number(c.s); got != c.want || !is {
			t.Errorf("Number(%s) = %d, %v, want %d, true", c.s, got, is, c.want)
		}
	}
}

// P4.3: what writes no number.
func TestNumberNone(t *testing.T) {
	l := []string{
		"", " ", "x", "a", "-", "+", "-1", "+1", "-0", " 1", "1 ", "1\n", "1\x00", "\x001", "1_0", "0_1", "1.0", "1e3", ".5", "1a", "1f", "f", "ff",
		"08", "09", "018", "0a", "0b1", "0B1", "0o7", "0O7", "0x", "0X", "0xg", "0xG", "0x-1", "0x+1", "0x 1", "0x0x1", "0x1.", "00x1", "1x1", "x1", "0xx1", "0x1_0",
		"0/", "0:", "1/", "1:", "0x/", "0x:", "0x@", "0x`", "\xff", "1\xff", "\u0661", "1\u0661", "0x\uff11",
	}
	for _, s := range append(l, tooGreat()...) {
		if got, is := quote.Number(s); got != 0 || is {
			t.Errorf("Number(%q) = %d, %v, want 0, false", s, got, is)
		}
	}
}

// tooGreat answers numbers from 2^64 on, in every base.
func tooGreat() []string {
	var l []string
	limit := new(big.Int).Lsh(big.NewInt(1), 64)
	for _, more := range []int64{0, 1, 3, 4, 5, 6, 8, 15, 16, 1 << 40} {
		for _, times := range []int64{1, 2, 7, 8, 10, 16, 17, 1 << 60} {
			n := new(big.Int).Mul(limit, big.NewInt(times))
			n.Add(n, big.NewInt(more))
			l = append(l, n.Text(10), "0"+n.Text(8), "0x"+n.Text(16), "0X000"+n.Text(16))
		}
	}
	return append(l, strings.Repeat("9", 20), strings.Repeat("9", 1000), "0x1"+strings.Repeat("0", 1000), "07"+strings.Repeat("0", 1000))
}

// numeral is what writes a number, as the chapter lists it.
var numeral = regexp.MustCompile(`\A(?:0[xX][0-9a-fA-F]+|0[0-7]*|[1-9][0-9]*)\z`)

// holdNumber holds Number of s against the library's, whose forms are more.
func holdNumber(t *testing.T, s string) {
	t.Helper()
	want, err := strconv.ParseUint(s, 0, 64)
	wanted := err == nil && numeral.MatchString(s)
	if !wanted {
		want = 0
	}
	if got, is := quote.Number(s); got != want || is != wanted {
		t.Errorf("Number(%q) = %d, %v, want %d, %v", s, got, is, want, wanted)
	}
}

// P4.3: all texts of a few signs.
func TestNumberAll(t *testing.T) {
	texts := []string{""}
	for range 4 {
		var longer []string
		for _, s := range texts {
			for _, c := range []byte("01789afAFgxXob_-. ") {
				longer = append(longer, s+string(rune(c)))
			}
		}
		for _, s := range longer {
			holdNumber(t, s)
		}
		texts = longer
	}
}

// P4.4: the digits, and no nought ahead.
func TestDigits(t *testing.T) {
	for _, n := range edges() {
		if got, want := quote.Digits(n), fmt.Sprint(n); got != want {
			t.Errorf("Digits(%d) = %s", n, got)
		}
	}
	for n := range uint64(2000) {
		if got, want := quote.Digits(n), fmt.Sprint(n); got != want {
			t.Errorf("Digits(%d) = %s", n, got)
		}
	}
}

// back holds P4.5 for bytes, with a text behind.
func back(t *testing.T, b []byte, tail string) {
	t.Helper()
	s := quote.Text(b)
	got, size, err := quote.Take(s + tail)
	if !bytes.Equal(got, b) || size != len(s) || err != api.OK {
		t.Errorf("Take(%s%q) = %q, %d, %d, want %q, %d, OK", s, tail, got, size, err, b, len(s))
	}
}

// P4.5: Take of Text, whatever stands behind.
func TestBack(t *testing.T) {
	for _, tail := range tails() {
		back(t, nil, tail)
		back(t, allBytes(), tail)
		back(t, []byte(quote.Text(allBytes())), tail)
	}
	for _, a := range allBytes() {
		for _, c := range allBytes() {
			back(t, []byte{a, c}, "")
			back(t, []byte{a, c}, "7\"")
		}
	}
}

// P4.5: Number of Digits.
func TestNumberBack(t *testing.T) {
	for _, n := range edges() {
		if got, is := quote.Number(quote.Digits(n)); got != n || !is {
			t.Errorf("Number(Digits(%d)) = %d, %v", n, got, is)
		}
	}
}

// P3: nil and empty are the same.
func TestNil(t *testing.T) {
	if quote.Text(nil) != `""` || quote.Text([]byte{}) != `""` {
		t.Errorf("Text = %s, %s", quote.Text(nil), quote.Text([]byte{}))
	}
}

// P2: what lies behind the length isn't written, no argument is changed, no answer is another's memory.
func TestMemory(t *testing.T) {
	given := []byte("a\"b\nrest\"")
	want := bytes.Clone(given)
	if got := quote.Text(given[:4]); got != `"a\"b\n"` {
		t.Errorf("Text = %s", got)
	}
	if !bytes.Equal(given, want) {
		t.Errorf("changed: %q", given)
	}
	for _, s := range []string{`"abc"`, `"a"`, `'\n'`, `'\?\\\''`, `"\101\x41"`, `'\u20ac\U0001f600'`} {
		a, _, _ := quote.Take(s)
		b, _, _ := quote.Take(s)
		want := bytes.Clone(b)
		a = a[:cap(a)]
		for i := range a {
			a[i] ^= 0xff
		}
		again, _, _ := quote.Take(s)
		if !bytes.Equal(b, want) || !bytes.Equal(again, want) {
			t.Errorf("Take(%s) shares memory", s)
		}
	}
}

// P4.1 to P4.3: long ones end, too.
func TestLong(t *testing.T) {
	back(t, bytes.Repeat(allBytes(), 2000), "rest")
	long := strings.Repeat("a", 500000)
	refuses(t, `"`+long, 1+len(long))
	refuses(t, `"`+long+`\q"`, 1+len(long))
	if n, is := quote.Number("0" + strings.Repeat("0", 500000) + "7"); n != 7 || !is {
		t.Errorf("Number of a long text = %d, %v", n, is)
	}
}

func FuzzTake(f *testing.F) {
	for _, s := range []string{"", `"a\x41\101\u20AC" b`, `'\U0001F600'`, `'\400'`, "'\\a\n", `"\ud800"`, `'\?\"\''`} {
		f.Add(s)
	}
	f.Fuzz(func(t *testing.T, s string) {
		hold(t, s)
		hold(t, `"`+s)
		hold(t, `'`+s+`'`)
		holdNumber(t, s)
	})
}

func FuzzBack(f *testing.F) {
	f.Add(allBytes(), "rest", uint64(0))
	f.Add([]byte("it's"), "'", uint64(math.MaxUint64))
	f.Fuzz(func(t *testing.T, b []byte, tail string, n uint64) {
		back(t, b, tail)
		if got, is := quote.Number(quote.Digits(n)); got != n || !is {
			t.Errorf("Number(Digits(%d)) = %d, %v", n, got, is)
		}
	})
}
