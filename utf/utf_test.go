package utf_test

import (
	"bytes"
	"math"
	"testing"
	"unicode/utf8"

	"glossary/utf"
)

// edges answers numbers at the edges of sizes and of what is a character.
func edges() []rune {
	var l []rune
	for _, edge := range []rune{0, 0x40, 0x80, 0x800, 0x1000, 0xD800, 0xDC00, 0xE000, 0x10000, 0x40000, 0x100000, 0x110000, 0x200000, 0x4000000} {
		l = append(l, edge-2, edge-1, edge, edge+1, edge+2)
	}
	return append(l, 'a', 0x20AC, 0xFFFD, 0xFEFF, 0xFFFE, 0x1F600, math.MinInt32, math.MinInt32+0x41, math.MaxInt32)
}

// isCharacter says what the chapter calls a character.
func isCharacter(r rune) bool {
	return r >= 0 && r <= 0x10FFFF && !(r >= 0xD800 && r <= 0xDFFF)
}

// tails answers bytes that may stand behind a character.
func tails() []string {
	return []string{"", "z", "\x80", "\xbf\xbf\xbf\xbf", "\xc2", "\xff", "\xed\xa0\x80", "\u20ac"}
}

// broken answers bytes whose beginning is no character, by why that is so.
func broken() map[string][]string {
	return map[string][]string{
		"nothing":             {""},
		"not a first byte":    {"\x80", "\xbf", "\x80\x80", "\xbfa", "\xa9\x41"},
		"beginning of five":   {"\xf8", "\xf8\x88\x80\x80\x80", "\xfb\xbf\xbf\xbf\xbf"},
		"beginning of six":    {"\xfc\x84\x80\x80\x80\x80", "\xfd\xbf\xbf\xbf\xbf\xbf"},
		"never a byte":        {"\xfe", "\xff", "\xff\xff\xff\xff", "\xfe\x83\xbf\xbf\xbf\xbf\xbf"},
		"cut off":             {"\xc2", "\xdf", "\xe0", "\xe2\x82", "\xef\xbf", "\xf0", "\xf0\x90", "\xf4\x8f\xbf"},
		"broken off by a":     {"\xc2a", "\xe2a\x82", "\xe2\x82a", "\xf0a\x80\x80", "\xf0\x90a\x80", "\xf0\x90\x80a"},
		"broken off by first": {"\xc2\xc2\x80", "\xe2\x82\xc2", "\xf0\x90\x80\xc0", "\xf0\x90\xe2\x80"},
		"broken off by nul":   {"\xc2\x00", "\xe2\x82\x00", "\xf0\x90\x80\x00", "\xe2\x00\x82"},
		"two for one":         {"\xc0\x80", "\xc0\xbf", "\xc1\x80", "\xc1\xbf"},
		"three for fewer":     {"\xe0\x80\x80", "\xe0\x81\xbf", "\xe0\x82\x80", "\xe0\x9f\xbf"},
		"four for fewer":      {"\xf0\x80\x80\x80", "\xf0\x80\x81\xbf", "\xf0\x82\x82\xac", "\xf0\x8f\xbf\xbf"},
		"halves of pairs":     {"\xed\xa0\x80", "\xed\xaf\xbf", "\xed\xb0\x80", "\xed\xbf\xbf", "\xed\xa0\xbd\xed\xb8\x80"},
		"beyond the last":     {"\xf4\x90\x80\x80", "\xf4\xbf\xbf\xbf", "\xf5\x80\x80\x80", "\xf7\xbf\xbf\xbf"},
	}
}

// P3.3: the bytes themselves.
func TestPutBytes(t *testing.T) {
	cases := []struct {
		r    rune
		want string
	}{
		{0, "\x00"},
		{'a', "a"},
		{0x7F, "\x7f"},
		{0x80, "\xc2\x80"},
		{0xE9, "\xc3\xa9"},
		{0x7FF, "\xdf\xbf"},
		{0x800, "\xe0\xa0\x80"},
		{0x20AC, "\xe2\x82\xac"},
		{0xD7FF, "\xed\x9f\xbf"},
		{0xE000, "\xee\x80\x80"},
		{0xFFFD, "\xef\xbf\xbd"},
		{0xFFFF, "\xef\xbf\xbf"},
		{0x10000, "\xf0\x90\x80\x80"},
		{0x1F600, "\xf0\x9f\x98\x80"},
		{0x10FFFF, "\xf4\x8f\xbf\xbf"},
	}
	for _, c := range cases {
		if got := utf.Put(c.r); string(got) != c.want {
			t.Errorf("Put(%#x) = % x, want % x", c.r, got, c.want)
		}
	}
}

// P3.3: of no character there are no bytes.
func TestPutNoCharacter(t *testing.T) {
	for _, r := range []rune{-1, -2, -0x80, math.MinInt32, 0xD800, 0xD801, 0xDBFF, 0xDC00, 0xDFFF, 0x110000, 0x110001, 0x1FFFFF, math.MaxInt32} {
		if got := utf.Put(r); len(got) != 0 {
			t.Errorf("Put(%#x) = % x, want none", r, got)
		}
	}
}

// P3.3: the chapter's own words, reckoned with / and modulo.
func TestPutReckoned(t *testing.T) {
	for _, r := range edges() {
		if got, want := utf.Put(r), reckoned(r); !bytes.Equal(got, want) {
			t.Errorf("Put(%#x) = % x, want % x", r, got, want)
		}
	}
}

func reckoned(r rune) []byte {
	last, next, third := byte(0x80+r%64), byte(0x80+r/64%64), byte(0x80+r/4096%64)
	switch {
	case !isCharacter(r):
		return nil
	case r < 0x80:
		return []byte{byte(r)}
	case r < 0x800:
		return []byte{byte(0xC0 + r/64), last}
	case r < 0x10000:
		return []byte{byte(0xE0 + r/4096), next, last}
	}
	return []byte{byte(0xF0 + r/262144), third, next, last}
}

// P3.3, P3.5: every number there is up to well beyond the last character, against the library.
func TestEveryCharacter(t *testing.T) {
	for r := rune(-0x1000); r < 0x220000; r++ {
		b := utf.Put(r)
		if !isCharacter(r) {
			if len(b) != 0 {
				t.Fatalf("Put(%#x) = % x, want none", r, b)
			}
			continue
		}
		if want := utf8.AppendRune(nil, r); !bytes.Equal(b, want) {
			t.Fatalf("Put(%#x) = % x, want % x", r, b, want)
		}
		if got, size := utf.Rune(b); got != r || size != len(b) {
			t.Fatalf("Rune(% x) = %#x, %d, want %#x, %d", b, got, size, r, len(b))
		}
	}
}

// P3.5: whatever stands behind.
func TestBack(t *testing.T) {
	for _, r := range edges() {
		if !isCharacter(r) {
			continue
		}
		b := utf.Put(r)
		for _, tail := range tails() {
			got, size := utf.Rune(append(bytes.Clone(b), tail...))
			if got != r || size != len(b) {
				t.Errorf("Rune(% x % x) = %#x, %d, want %#x, %d", b, tail, got, size, r, len(b))
			}
		}
	}
}

// P3.2: the character of U+FFFD is one, though others answer it where there is none.
func TestRuneReplacement(t *testing.T) {
	if r, size := utf.Rune([]byte("\xef\xbf\xbd")); r != 0xFFFD || size != 3 {
		t.Errorf("Rune = %#x, %d", r, size)
	}
}

// P3.1, P3.2, P3.4: bytes that are no character, alone and with others about them.
func TestBroken(t *testing.T) {
	for why, texts := range broken() {
		for _, s := range texts {
			if r, size := utf.Rune([]byte(s)); r != -1 || size != 0 {
				t.Errorf("%s: Rune(% x) = %#x, %d, want -1, 0", why, s, r, size)
			}
			if got := utf.Count([]byte(s)); got != 0 {
				t.Errorf("%s: Count(% x) = %d, want 0", why, s, got)
			}
			if s == "" {
				continue
			}
			if utf.Valid([]byte(s)) {
				t.Errorf("%s: % x is valid", why, s)
			}
			about := "a\u00e9\u20ac\U0001f600" + s + "z"
			if utf.Valid([]byte(about)) {
				t.Errorf("%s: % x is valid", why, about)
			}
			if got := utf.Count([]byte(about)); got != 4 {
				t.Errorf("%s: Count(% x) = %d, want 4", why, about, got)
			}
		}
	}
}

// P3.1, P3.4: characters one behind the other.
func TestCharacters(t *testing.T) {
	var b []byte
	count := 0
	for range 3 {
		for _, r := range edges() {
			if !isCharacter(r) {
				continue
			}
			b = append(b, utf.Put(r)...)
			count++
			if !utf.Valid(b) {
				t.Fatalf("% x is not valid", b)
			}
			if got := utf.Count(b); got != count {
				t.Fatalf("Count(% x) = %d, want %d", b, got, count)
			}
		}
	}
	for end := range b {
		if got, want := utf.Valid(b[:end]), utf8.Valid(b[:end]); got != want {
			t.Errorf("Valid of %d bytes = %v, want %v", end, got, want)
		}
	}
}

// P3.4: what stands behind the first place without a character isn't counted.
func TestCountStops(t *testing.T) {
	cases := []struct {
		s    string
		want int
	}{
		{"", 0},
		{"a", 1},
		{"a\u20acb", 3},
		{"a\u20acb\xff", 3},
		{"a\xffbcd", 1},
		{"\xffabc", 0},
		{"ab\xe2\x82", 2},
		{"ab\xe2\x82c", 2},
		{"\x00\x00\x00", 3},
		{"\u00e9\xc0\x80\u00e9", 1},
	}
	for _, c := range cases {
		if got := utf.Count([]byte(c.s)); got != c.want {
			t.Errorf("Count(%q) = %d, want %d", c.s, got, c.want)
		}
	}
}

// P3.1 to P3.4: every beginning of two bytes, with more of any kind behind, against the library.
func TestEveryBeginning(t *testing.T) {
	ends := []string{"", "\x7f", "\x80", "\xbf", "\xc0", "\x80\x80", "\x80\xbf", "\xbf\x80", "\xbf\x7f", "\xbf\xc0", "\xbf\xbf\xbf"}
	for first := range 256 {
		hold(t, []byte{byte(first)})
		for second := range 256 {
			for _, end := range ends {
				hold(t, append([]byte{byte(first), byte(second)}, end...))
			}
		}
	}
}

// hold holds all calls about b against the library's.
func hold(t *testing.T, b []byte) {
	t.Helper()
	want, wantSize := rune(-1), 0
	if r, size := utf8.DecodeRune(b); r != utf8.RuneError || size == 3 {
		want, wantSize = r, size
	}
	if r, size := utf.Rune(b); r != want || size != wantSize {
		t.Errorf("Rune(% x) = %#x, %d, want %#x, %d", b, r, size, want, wantSize)
	}
	if got, want := utf.Valid(b), utf8.Valid(b); got != want {
		t.Errorf("Valid(% x) = %v, want %v", b, got, want)
	}
	if got, want := utf.Count(b), counted(b); got != want {
		t.Errorf("Count(% x) = %d, want %d", b, got, want)
	}
}

func counted(b []byte) int {
	n := 0
	for at, r := range string(b) {
		if r == utf8.RuneError && !bytes.HasPrefix(b[at:], []byte("\ufffd")) {
			break
		}
		n++
	}
	return n
}

// P3: nil and empty are the same.
func TestNil(t *testing.T) {
	for _, b := range [][]byte{nil, {}} {
		if r, size := utf.Rune(b); r != -1 || size != 0 {
			t.Errorf("Rune = %#x, %d", r, size)
		}
		if !utf.Valid(b) || utf.Count(b) != 0 {
			t.Errorf("Valid = %v, Count = %d", utf.Valid(b), utf.Count(b))
		}
	}
}

// P2: what lies behind the length isn't read, though it would make a character whole.
func TestBehindLength(t *testing.T) {
	for _, s := range []string{"\u00e9", "\u20ac", "\U0001f600"} {
		for end := 1; end < len(s); end++ {
			b := []byte(s)[:end]
			if r, size := utf.Rune(b); r != -1 || size != 0 {
				t.Errorf("Rune(% x) = %#x, %d", b, r, size)
			}
			if utf.Valid(b) || utf.Count(b) != 0 {
				t.Errorf("% x: Valid = %v, Count = %d", b, utf.Valid(b), utf.Count(b))
			}
		}
	}
}

// P2: no answer is another's memory, and no argument is changed.
func TestMemory(t *testing.T) {
	for _, r := range edges() {
		a, b := utf.Put(r), utf.Put(r)
		want := bytes.Clone(b)
		a = a[:cap(a)]
		for i := range a {
			a[i] ^= 0xff
		}
		if !bytes.Equal(b, want) || !bytes.Equal(utf.Put(r), want) {
			t.Errorf("Put(%#x) shares memory", r)
		}
	}
	given := []byte("a\u20ac\U0001f600\xffrest")
	want := bytes.Clone(given)
	utf.Rune(given[1:])
	utf.Valid(given)
	utf.Count(given)
	if !bytes.Equal(given, want) {
		t.Errorf("changed: % x", given)
	}
}

// P3.1, P3.4: long ones end, too.
func TestLong(t *testing.T) {
	b := bytes.Repeat([]byte("\u20ac"), 200000)
	if !utf.Valid(b) || utf.Count(b) != 200000 {
		t.Error("long: not valid, or not counted")
	}
	b[len(b)-1] = 'a'
	if utf.Valid(b) || utf.Count(b) != 199999 {
		t.Error("long and broken at its end: valid, or not counted")
	}
}

func FuzzBytes(f *testing.F) {
	for _, texts := range broken() {
		for _, s := range texts {
			f.Add([]byte("a\u00e9" + s))
		}
	}
	f.Fuzz(func(t *testing.T, b []byte) {
		hold(t, b)
		r, size := utf.Rune(b)
		if size > 0 && !bytes.Equal(utf.Put(r), b[:size]) {
			t.Errorf("Put(Rune(% x)) = % x", b, utf.Put(r))
		}
	})
}

func FuzzBack(f *testing.F) {
	for _, r := range edges() {
		f.Add(int32(r), []byte("\x80z"))
	}
	f.Fuzz(func(t *testing.T, r int32, tail []byte) {
		b := utf.Put(r)
		if !bytes.Equal(b, reckoned(r)) {
			t.Errorf("Put(%#x) = % x", r, b)
		}
		if !isCharacter(r) {
			return
		}
		if got, size := utf.Rune(append(bytes.Clone(b), tail...)); got != r || size != len(b) {
			t.Errorf("Rune(Put(%#x)) = %#x, %d", r, got, size)
		}
	})
}
