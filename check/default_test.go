package check_test

import (
	"math"
	"math/big"
	"regexp"
	"strings"
	"testing"

	"glossary/api"
	"glossary/check"
	"glossary/lower"
)

// bounds are the least and the greatest number of each type of whole numbers.
var bounds = map[int][2]string{
	api.TInt32: {"-2147483648", "2147483647"}, api.TSint32: {"-2147483648", "2147483647"}, api.TSfixed32: {"-2147483648", "2147483647"},
	api.TInt64: {"-9223372036854775808", "9223372036854775807"}, api.TSint64: {"-9223372036854775808", "9223372036854775807"}, api.TSfixed64: {"-9223372036854775808", "9223372036854775807"},
	api.TUint32: {"0", "4294967295"}, api.TFixed32: {"0", "4294967295"},
	api.TUint64: {"0", "18446744073709551615"}, api.TFixed64: {"0", "18446744073709551615"},
}

var (
	isNumber = regexp.MustCompile(`^(0|-?[1-9][0-9]*)$`)
	isName   = regexp.MustCompile(`^[A-Za-z_][A-Za-z0-9_]{0,199}$`)
)

// modelDefault answers what check.Default is to answer.
func modelDefault(t int, s string) bool {
	if b, is := bounds[t]; is {
		n, _ := new(big.Int).SetString(s, 10)
		least, _ := new(big.Int).SetString(b[0], 10)
		most, _ := new(big.Int).SetString(b[1], 10)
		return isNumber.MatchString(s) && n.Cmp(least) >= 0 && n.Cmp(most) <= 0
	}
	return t == api.TBool && (s == "true" || s == "false") || t == api.TString || t == api.TBytes || t == api.TEnum && isName.MatchString(s)
}

// defaults are texts that may be defaults, or nearly.
func defaults() []string {
	l := strings.Fields(`0 1 -1 5 00 -0 +1 01 -01 0x1 0X1 1.0 1e3 1_000 - -- --1 inf nan -inf true false True TRUE t E1 E.1 .E1 e_1 _ 1a a-b "a" option reserved message
		99999999999999999999999999 -99999999999999999999999999 36893488147419103232 ä ٣`)
	l = append(l, "", " ", " 1", "1 ", "1\n", "true ", " true", "\x00", "\xff", "true\x00", long(200), long(201), strings.Repeat("9", 1000))
	for _, b := range bounds {
		for _, s := range b {
			n, _ := new(big.Int).SetString(s, 10)
			for by := range int64(5) {
				l = append(l, new(big.Int).Add(n, big.NewInt(by-2)).String())
			}
		}
	}
	return l
}

// P16.3: which texts are defaults of which types.
func TestDefault(t *testing.T) {
	for _, c := range []struct {
		kind int
		said string // those that are
		not  string // those that aren't
	}{
		{api.TInt32, "0 -5 2147483647 -2147483648", "2147483648 -2147483649 -0 01 0x1 a true"},
		{api.TUint32, "0 4294967295", "-1 4294967296"},
		{api.TInt64, "9223372036854775807 -9223372036854775808", "9223372036854775808 -9223372036854775809"},
		{api.TUint64, "18446744073709551615", "18446744073709551616 -1"},
		{api.TBool, "true false", "True 1 0 t"},
		{api.TString, "a 1 true -", ""},
		{api.TBytes, "a 1 \xff", ""},
		{api.TEnum, "a E1 true option", "1 a.b -1 -a"},
		{api.TDouble, "", "0 1 1.0 inf a true"},
		{api.TFloat, "", "0 1 1.0 nan a true"},
		{api.TMessage, "", "0 a true"},
		{0, "", "0 a true"},
		{10, "", "0 a true"},
	} {
		for _, s := range strings.Fields(c.said) {
			if !check.Default(c.kind, s) {
				t.Errorf("%d: %q is none", c.kind, s)
			}
		}
		for _, s := range strings.Fields(c.not) {
			if check.Default(c.kind, s) {
				t.Errorf("%d: %q is one", c.kind, s)
			}
		}
	}
}

// P16.3 against the model, of all types and of what is none.
func TestDefaultModel(t *testing.T) {
	kinds := []int{math.MinInt, -1, 19, 20, 1 << 32, 1<<32 + 5, math.MaxInt}
	for kind := range 19 {
		kinds = append(kinds, kind)
	}
	for _, kind := range kinds {
		for _, s := range defaults() {
			if got, want := check.Default(kind, s), modelDefault(kind, s); got != want {
				t.Errorf("%d, %q: %t, want %t", kind, s, got, want)
			}
		}
	}
}

// P16.3: whatever layer 13 answers as the text of a default is one.
func TestDefaultOfLower(t *testing.T) {
	for kind := 1; kind <= 18; kind++ {
		for _, s := range defaults() {
			for _, of := range []int{api.KInt, api.KIdent, api.KString} {
				if text, is := lower.Default(kind, api.Node{Kind: of, Text: s}); is && !check.Default(kind, text) {
					t.Errorf("%d: %q", kind, s)
				}
			}
		}
	}
}

func FuzzDefault(f *testing.F) {
	for _, s := range defaults() {
		f.Add(5, s)
	}
	f.Fuzz(func(t *testing.T, kind int, s string) {
		for _, k := range []int{kind, (kind%19 + 19) % 19} {
			if got, want := check.Default(k, s), modelDefault(k, s); got != want {
				t.Fatalf("%d, %q: %t, want %t", k, s, got, want)
			}
		}
	})
}
