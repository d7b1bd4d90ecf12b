package value_test

import (
	"math"
	"slices"
	"strings"
	"testing"

	"glossary/api"
	"glossary/pool"
	"glossary/value"
)

// P17.1: the chapter's example.
func TestExample(t *testing.T) {
	hold(t, made(t, base()...), "two.None", api.Msg{}, true)
}

// P17.1: of a message of the pool, by its full name.
func TestOfMessage(t *testing.T) {
	p := made(t, base()...)
	for full, want := range map[string]bool{
		"two.All": true, "three.All": true, "two.None": true, "two.Maps.K9": true, "two.Need": false,
		"two": false, "two.E": false, "two.E0": false, "two.text": false, "two.All.f1": false, "two.One.o": false, "": false, "All": false, ".two.All": false, "two.all": false, "two.All.": false,
	} {
		hold(t, p, full, api.Msg{}, want)
		hold(t, p, full, api.Msg{Slots: []api.Slot{}, Unknown: []byte{}}, want)
	}
	hold(t, nil, "two.All", api.Msg{}, false)
	hold(t, &pool.Pool{}, "", api.Msg{}, false)
	hold(t, made(t, api.File{Messages: []api.Message{{}}}), "", api.Msg{}, true)
}

// P17.1: as deep as it may be, and one more; what has nothing in it doesn't count.
func TestFitDeep(t *testing.T) {
	p := made(t, base()...)
	for deep := 1; deep < 70; deep++ {
		hold(t, p, "two.All", nested(deep, 11, msg(slot(3, n(1)))), deep <= 64)
		hold(t, p, "three.All", nested(deep, 111, unknown("\xa0\x06\x01")), deep <= 64)
		hold(t, p, "three.All", nested(deep, 11, api.Msg{}), deep <= 65)
		hold(t, p, "two.All", nested(deep, 11, msg(slot(4))), false)
	}
	wide := msg(slot(11, api.Val{M: nested(10, 11, msg(slot(3, n(1))))}), slot(111, api.Val{}, api.Val{M: nested(63, 111, msg(slot(3, n(1))))}))
	hold(t, p, "two.All", wide, true)
	wide.Slots[1].Vals[0].M = nested(64, 111, msg(slot(3, n(1))))
	hold(t, p, "two.All", wide, false)
}

// P17.1: slots rise, and each is of a field.
func TestSlots(t *testing.T) {
	p := made(t, base()...)
	holdAll(t, p, "two.All", []try{
		{msg(slot(3, n(1)), slot(4, n(1)), slot(5, n(1)), slot(103, n(1)), slot(200, b("a"))), true},
		{msg(slot(4, n(1)), slot(3, n(1))), false},
		{msg(slot(3, n(1)), slot(3, n(1))), false},
		{msg(slot(103, n(1)), slot(103, n(1))), false},
		{msg(slot(3, n(1)), slot(5, n(1)), slot(4, n(1))), false},
		{msg(slot(200, b("a")), slot(3, n(1))), false},
		{msg(slot(10, n(1))), false},
		{msg(slot(10)), false},
		{msg(slot(0, n(1))), false},
		{msg(slot(-3, n(1))), false},
		{msg(slot(19, n(1))), false},
		{msg(slot(299, n(1))), false}, // a number for extensions that none has
		{msg(slot(300, n(1))), false}, // another message's extension
		{msg(slot(1<<32+3, n(1))), false},
		{msg(slot(math.MaxInt, n(1))), false},
		{msg(slot(3, n(1)), slot(10, n(1))), false},
	})
	hold(t, p, "two.One", msg(slot(300, n(1))), true)
	hold(t, p, "two.None", msg(slot(1, n(1))), false)
	// Numbers that no field may have are numbers all the same.
	odd := api.Message{Name: "M", Fields: []api.Field{field("a", -5, 0, api.TBool, ""), field("b", 0, 0, api.TBool, ""), field("c", math.MaxInt64, 0, api.TBool, ""), field("d", 1<<32+1, 0, api.TBool, "")}}
	p = made(t, api.File{Messages: []api.Message{odd}})
	hold(t, p, "M", msg(slot(-5, n(1)), slot(0, n(1)), slot(1<<32+1, n(1)), slot(math.MaxInt, n(1))), true)
	hold(t, p, "M", msg(slot(1, n(1))), false)
}

// P17.1: how many worths there may be, by the label.
func TestCounts(t *testing.T) {
	for label := -1; label < 5; label++ {
		f := field("a", 1, 0, api.TInt32, "")
		f.Label = label
		x := extension("x", ".M", 2, 0, api.TInt32, "")
		x.Label = label
		p := made(t, api.File{Messages: []api.Message{{Name: "M", Fields: []api.Field{f}}}, Extends: []api.Field{x}})
		for count := range 4 {
			l := make([]uint64, count)
			hold(t, p, "M", msg(ones(1, l...), ones(2, l...)), count == 1 || count > 1 && label == 3)
		}
		hold(t, p, "M", msg(ones(1, 1)), label != 2)
	}
}

// P17.1: of each type what Scalar takes, whether there may be one or more.
func TestWorths(t *testing.T) {
	p := made(t, base()...)
	worths := []api.Val{b("a"), b(""), b("\xff"), {N: 1, B: []byte("a")}, in(slot(3, n(1))), in(slot(0)), {M: unknown("\xa0\x06\x01")}, {M: unknown("\x08")}, {N: 1, M: unknown("\xa0\x06\x01")}, {B: []byte("a"), M: unknown("\xa0\x06\x01")}}
	for _, number := range edges() {
		worths = append(worths, n(number))
	}
	for _, kind := range types() {
		for _, v := range worths {
			want := value.Scalar(kind, v)
			for _, full := range []string{"two.All", "three.All"} {
				switch {
				case kind == api.TEnum && full == "two.All":
					want = slices.Contains([]uint64{0, minus(1), minus(1 << 31), 1<<31 - 1}, v.N) && want
				case kind == api.TMessage:
					want = v.N == 0 && len(v.B) == 0 && len(v.M.Unknown) != 1 && (len(v.M.Slots) == 0 || v.M.Slots[0].Num == 3)
				case kind == api.TString && full == "three.All":
					want = want && string(v.B) != "\xff"
				default:
					want = value.Scalar(kind, v)
				}
				good := api.Val{}
				hold(t, p, full, msg(slot(kind, v)), want)
				hold(t, p, full, msg(slot(100+kind, v)), want)
				hold(t, p, full, msg(slot(100+kind, good, v)), want)
				hold(t, p, full, msg(slot(100+kind, v, good)), want)
				hold(t, p, full, msg(slot(11, in(slot(100+kind, v)))), want)
			}
		}
	}
}

// P17.1: texts of a proto3 file's fields are characters; of an extension its own file tells.
func TestTexts(t *testing.T) {
	p := made(t, base()...)
	for text, valid := range map[string]bool{"": true, "a\x00": true, "\xe2\x82\xac": true, "\xff": false, "a\x80": false, "\xc0\x80": false, "\xed\xa0\x80": false, "\xf4\x90\x80\x80": false, "\xe2\x82": false} {
		for _, one := range []string{"two", "three"} {
			free := valid || one == "two"
			other := valid || one == "three" // extensions of the one are the other's
			holdAll(t, p, one+".All", []try{
				{msg(slot(9, b(text))), free},
				{msg(slot(109, b("a"), b(text))), free},
				{msg(slot(12, b(text))), true},
				{msg(slot(112, b(text), b(text))), true},
				{msg(slot(200, b(text))), other},
				{msg(slot(201, b("a"), b(text))), other},
				{msg(slot(11, in(slot(9, b(text))))), free},
			})
			hold(t, p, one+".Maps", msg(slot(9, in(slot(1, b(text))))), free)
			hold(t, p, one+".Maps", msg(slot(9, in(slot(2, b(text))))), free)
			hold(t, p, one+".Mixed", msg(slot(1, in(slot(9, b(text))))), other)
			hold(t, p, one+".Mixed", msg(slot(1, in(slot(200, b(text))))), free)
		}
	}
}

// P17.1: an enum's numbers, where its own file isn't proto3.
func TestEnums(t *testing.T) {
	p := made(t, base()...)
	for number, is := range map[uint64]bool{0: true, 5: true, minus(1): true, minus(1 << 31): true, 1<<31 - 1: true, 1: false, 4: false, minus(2): false, 127: false} {
		holdAll(t, p, "two.All", []try{{msg(slot(14, n(number))), is}, {msg(slot(114, n(0), n(number))), is}, {msg(slot(202, n(number))), is}})
		holdAll(t, p, "three.All", []try{{msg(slot(14, n(number))), true}, {msg(slot(114, n(0), n(number))), true}, {msg(slot(202, n(number))), true}})
		hold(t, p, "two.Mixed", msg(slot(2, n(number))), true)
		hold(t, p, "three.Mixed", msg(slot(2, n(number))), is)
	}
	// Numbers of 32 bits with sign, whatever its values' are.
	for _, syntax := range []string{"", "proto3"} {
		m := api.Message{Name: "M", Fields: []api.Field{field("e", 1, 0, api.TEnum, ".F")}}
		p := made(t, api.File{Syntax: syntax, Messages: []api.Message{m}, Enums: []api.Enum{enum("F", 1<<31, 1<<32+1, math.MinInt64, 3, 3)}})
		for _, number := range []uint64{1 << 31, 1<<32 + 1, 1 << 63, 1<<32 - 1, minus(1<<31 + 1)} {
			hold(t, p, "M", msg(slot(1, n(number))), false)
		}
		hold(t, p, "M", msg(slot(1, n(3))), true)
		hold(t, p, "M", msg(slot(1, n(1))), syntax != "")
	}
}

// P17.1: a type is what its name with a dot ahead stands for.
func TestTypeNames(t *testing.T) {
	names := []string{".M", ".N", ".E", ".P", "M", "E", "..M", ".none", "", ".", ".M.f0", ".k"}
	m := api.Message{Name: "M"}
	for i, name := range names {
		m.Fields = append(m.Fields, field("f"+string(rune('0'+i)), int64(i+1), 0, api.TMessage, name), field("g"+string(rune('0'+i)), int64(i+101), 0, api.TEnum, name))
	}
	p := made(t, api.File{Name: "a", Package: "k"}, api.File{Name: "b", Messages: []api.Message{m, {Name: "N"}}, Enums: []api.Enum{enum("E", 0)}},
		api.File{Name: "c", Syntax: "proto3", Enums: []api.Enum{enum("P", 0)}})
	for i, name := range names {
		hold(t, p, "M", msg(slot(i+1, in())), name == ".M" || name == ".N")
		hold(t, p, "M", msg(slot(i+1, in(slot(2, in())))), name == ".M")
		hold(t, p, "M", msg(slot(i+101, n(0))), name == ".E" || name == ".P")
		hold(t, p, "M", msg(slot(i+101, n(1))), name == ".P")
		// A number that it hasn't, and one that it has.
		hold(t, p, "M", unknown(put(i+101, api.WireVarint, 1)), name != ".P")
		hold(t, p, "M", unknown(put(i+101, api.WireVarint, 0)), name != ".E" && name != ".P")
	}
	// A plain type has no use for a name.
	m = api.Message{Name: "M", Fields: []api.Field{field("a", 1, 3, api.TInt32, ".K"), field("b", 2, 3, api.TInt32, ".none")}}
	p = made(t, api.File{Messages: []api.Message{m, entry("K", api.TInt32, api.TInt32, "")}})
	hold(t, p, "M", msg(ones(1, 5, 5), ones(2, 5, 5)), true)
}

// P17.1: types that there aren't have no worths.
func TestNoTypes(t *testing.T) {
	for _, kind := range []int{0, 10, 19, -1, 1<<32 + 5} {
		p := made(t, api.File{Messages: []api.Message{{Name: "M", Fields: []api.Field{field("a", 1, 0, kind, ".M"), field("b", 2, 3, kind, "")}}}})
		for _, v := range []api.Val{{}, n(1), b("a"), in(slot(1, n(1)))} {
			hold(t, p, "M", msg(slot(1, v)), false)
			hold(t, p, "M", msg(slot(2, v, v)), false)
		}
		hold(t, p, "M", api.Msg{}, true)
		for _, wire := range []int{api.WireVarint, api.WireI64, api.WireI32, api.WireLen} {
			hold(t, p, "M", unknown(put(1, wire, 0)), wire != api.WireLen)
			hold(t, p, "M", unknown(put(2, wire, 0)), wire != api.WireLen)
		}
	}
}

// P17.1: required fields are there, wherever the message stands.
func TestRequired(t *testing.T) {
	p := made(t, base()...)
	for _, pack := range []string{"two", "three"} {
		full := pack + ".Need"
		holdAll(t, p, full, []try{
			{api.Msg{}, false},
			{msg(slot(1, n(0)), slot(3, b(""))), true},
			{msg(slot(1, n(1)), slot(2, n(1)), slot(3, b("a"))), true},
			{msg(slot(1, n(1))), false},
			{msg(slot(3, b("a"))), false},
			{msg(slot(1, n(1)), slot(2, n(1))), false},
			{msg(slot(1, n(1)), slot(1, n(1))), false},
			{msg(slot(1, n(1)), slot(3, b("a")), slot(4, in(slot(1, n(0)), slot(3, b(""))))), true},
			{msg(slot(1, n(1)), slot(3, b("a")), slot(4, in())), false},
			{msg(slot(1, n(1)), slot(3, b("a")), slot(4, in(slot(1, n(0)), slot(3, b(""))), in(slot(1, n(0))))), false},
			{api.Msg{Slots: []api.Slot{slot(1, n(1)), slot(3, b("a"))}, Unknown: []byte("\xa0\x06\x01")}, true},
			{api.Msg{Slots: []api.Slot{slot(1, n(1))}, Unknown: []byte("\x1d\x01\x00\x00\x00")}, false},
		})
	}
	x := extension("x", ".M", 7, api.LabelRequired, api.TInt32, "")
	p = made(t, api.File{Messages: []api.Message{{Name: "M"}}}, api.File{Package: "p", Extends: []api.Field{x}})
	hold(t, p, "M", api.Msg{}, false)
	hold(t, p, "M", msg(slot(7, n(0))), true)
	// A message within the pool that asks for itself has no end.
	p = made(t, api.File{Messages: []api.Message{{Name: "M", Fields: []api.Field{field("m", 1, api.LabelRequired, api.TMessage, ".M")}}}})
	hold(t, p, "M", nested(60, 1, api.Msg{}), false)
}

// P17.1: of the fields of one oneof at most one.
func TestOneofs(t *testing.T) {
	p := made(t, base()...)
	for set := range 1 << 7 {
		var l []api.Slot
		first, second := 0, 0
		for i := range 7 {
			if set>>i&1 == 0 {
				continue
			}
			l = append(l, slot(i+1, n(0)))
			if i < 3 {
				first++
			} else if i < 5 {
				second++
			}
		}
		hold(t, p, "two.One", msg(l...), first < 2 && second < 2)
		hold(t, p, "three.One", msg(l...), first < 2 && second < 2)
	}
	// Whatever its number is, and wherever its fields stand.
	for _, oneof := range []int{-1, 1, 7, 1 << 40} {
		m := api.Message{Name: "M", Fields: []api.Field{field("a", 9, 0, api.TInt32, ""), field("b", 2, 3, api.TInt32, ""), field("c", 5, 0, api.TInt32, "")}}
		m.Fields[0].Oneof, m.Fields[1].Oneof = oneof, oneof
		p := made(t, api.File{Messages: []api.Message{m}})
		hold(t, p, "M", msg(ones(2, 1, 1), ones(5, 1)), true)
		hold(t, p, "M", msg(ones(5, 1), ones(9, 1)), true)
		hold(t, p, "M", msg(ones(2, 1), ones(5, 1), ones(9, 1)), false)
	}
}

// P17.1: the entries of a map have unlike keys.
func TestMaps(t *testing.T) {
	p := made(t, base()...)
	one, two := in(slot(1, n(1)), slot(2, b("a"))), in(slot(1, n(2)), slot(2, b("a")))
	for _, full := range []string{"two.Maps", "three.Maps"} {
		for _, kind := range []int{3, 4, 5, 6, 7, 13, 15, 16, 17, 18} {
			holdAll(t, p, full, []try{
				{msg(slot(kind)), false},
				{msg(slot(kind, one)), true},
				{msg(slot(kind, one, two)), true},
				{msg(slot(kind, two, one)), true},
				{msg(slot(kind, one, one)), false},
				{msg(slot(kind, one, in(slot(1, n(1)), slot(2, b("b"))))), false},
				{msg(slot(kind, one, in(slot(1, n(1))))), false},
				{msg(slot(kind, one, two, in(slot(1, n(3))), in(slot(1, n(2))))), false},
				{msg(slot(kind, one, in())), true},
				{msg(slot(kind, in(), in())), false},
				{msg(slot(kind, in(), in(slot(2, b("a"))))), false},
				{msg(slot(kind, in(), two, in(slot(1, n(0))))), false},
				{msg(slot(kind, in(slot(1, n(0)), slot(2, b("a"))), api.Val{M: unknown("\x18\x01")})), false},
				{msg(slot(kind, in(slot(1, n(0))), one, two)), true},
				{msg(slot(kind, one, api.Val{N: 1})), false},
			})
		}
		text := func(s string) api.Val { return in(slot(1, b(s))) }
		for _, kind := range []int{api.TString, api.TBytes} {
			holdAll(t, p, full, []try{
				{msg(slot(kind, text("a"), text("b"), text("ab"), text(""))), true},
				{msg(slot(kind, text("a"), text("b"), text("a"))), false},
				{msg(slot(kind, text(""), text("b"), in())), false},
				{msg(slot(kind, text("b"), in(), text("a"))), true},
				{msg(slot(kind, in(), in(slot(2, b("a"))))), false},
			})
		}
		hold(t, p, full, msg(slot(8, in(), in(slot(1, n(1))))), true)
		hold(t, p, full, msg(slot(8, in(slot(1, n(0))), in())), false)
		hold(t, p, full, msg(slot(8, in(slot(1, n(1))), in(slot(1, n(1))))), false)
		hold(t, p, full, msg(slot(3, one), slot(4, one), slot(5, two, one)), true)
	}
	hold(t, p, "two.Maps", msg(slot(9, in(slot(1, b("\xff"))), in(slot(1, b("\xfe"))))), true)
	hold(t, p, "two.Maps", msg(slot(9, in(slot(1, b("\xff"))), in(slot(1, b("\xff"))))), false)
	hold(t, p, "two.All", msg(slot(111, in(slot(3, n(1))), in(slot(3, n(1))))), true) // no map
}

// P17.1: entries that nobody checked: the key is the field of that name, of whichever type and number.
func TestOddEntries(t *testing.T) {
	p := made(t, base()...)
	m := in(slot(1, in(slot(3, n(1)))))
	hold(t, p, "two.Maps", msg(slot(11, m, in(slot(1, in(slot(3, n(2))))), in())), true)
	hold(t, p, "two.Maps", msg(slot(11, m, in(slot(1, in(slot(3, n(2))))), m)), false)
	hold(t, p, "two.Maps", msg(slot(11, in(slot(1, in())), in())), false)
	hold(t, p, "two.Maps", msg(slot(14, in(slot(1, n(5))), in(), in(slot(1, minusOne())))), true)
	hold(t, p, "two.Maps", msg(slot(14, in(slot(1, n(5))), in(), in(slot(1, n(5))))), false)
	other := api.Message{Name: "K", Options: []byte{0x38, 1}, Fields: []api.Field{field("value", 1, 0, api.TInt32, ""), field("key", 2, 3, api.TInt32, "")}}
	keyless := api.Message{Name: "L", Options: []byte{0x38, 1}, Fields: []api.Field{field("value", 1, 0, api.TInt32, ""), field("Key", 2, 0, api.TInt32, "")}, Extends: []api.Field{extension("key", ".L", 3, 0, api.TInt32, "")}}
	shaded := api.Message{Name: "S", Options: []byte{0x38, 1}, Fields: []api.Field{field("other", 1, 0, api.TInt32, ""), field("key", 1, 0, api.TInt32, "")}}
	asks := api.Message{Name: "M", Fields: []api.Field{field("k", 1, 3, api.TMessage, ".K"), field("l", 2, 3, api.TMessage, ".L"), field("o", 3, 0, api.TMessage, ".K"), field("p", 4, 3, api.TMessage, ".P"), field("s", 5, 3, api.TMessage, ".S")}}
	plain := entry("P", api.TInt32, api.TInt32, "")
	plain.Options = []byte{0x38, 0}
	p = made(t, api.File{Messages: []api.Message{other, keyless, asks, plain, shaded}})
	holdAll(t, p, "M", []try{
		{msg(slot(1, in(ones(1, 5), ones(2, 1)), in(ones(1, 5), ones(2, 2)))), true},
		{msg(slot(1, in(ones(1, 5), ones(2, 1)), in(ones(1, 6), ones(2, 1)))), false},
		{msg(slot(1, in(ones(2, 1, 2)), in(ones(2, 1, 3)), in(ones(2, 1)), in())), true},
		{msg(slot(1, in(ones(2, 1, 2)), in(ones(2, 1, 3)), in(ones(2, 1, 2)))), false},
		{msg(slot(1, in(ones(2, 0)), in())), false},
		{msg(slot(2, in(ones(1, 5), ones(2, 1), ones(3, 1)))), true},
		{msg(slot(2, in(ones(1, 5), ones(2, 1), ones(3, 1)), in(ones(1, 6), ones(2, 2), ones(3, 2)))), false},
		{msg(slot(3, in(ones(2, 1)))), true},
		{msg(slot(4, in(ones(1, 1)), in(ones(1, 1)), in())), true},
		{msg(slot(5, in(ones(1, 1)))), true},
		{msg(slot(5, in(ones(1, 1)), in(ones(1, 2)))), false},
	})
}

func minusOne() api.Val { return n(minus(1)) }

// P17.1: a map of many entries, of which the last may be the first's like.
func TestManyEntries(t *testing.T) {
	p := made(t, base()...)
	var l []api.Val
	for i := range uint64(100000) {
		l = append(l, in(slot(1, n(i))))
	}
	if m := msg(slot(4, l...)); !value.Fit(p, "two.Maps", m) {
		t.Error("unlike keys")
	}
	if m := msg(slot(4, append(l, in(slot(2, b("a"))))...)); value.Fit(p, "two.Maps", m) {
		t.Error("a key that is there")
	}
}

// P17.1: Unknown is fields, each written as it may be.
func TestUnknownBytes(t *testing.T) {
	p := made(t, base()...)
	for text, want := range map[string]bool{
		"":                             true,
		"\xa0\x06\x01":                 true,
		"\xa0\x06\x01\xa0\x06\x01":     true,
		"\xa8\x06\x01\xa0\x06\x01":     true, // in any order
		"\xa2\x06\x02ab":               true,
		"\xa2\x06\x00":                 true,
		"\xa5\x06abcd":                 true,
		"\xa1\x06abcdefgh":             true,
		"\xf8\xff\xff\xff\x0f\x01":     true, // the greatest number of a field
		"\xa0\x06":                     false,
		"\xa0":                         false,
		"\xa0\x06\x80":                 false,
		"\xa2\x06\x03ab":               false,
		"\xa5\x06abc":                  false,
		"\xa3\x06":                     false,
		"\xa4\x06":                     false,
		"\x00\x01":                     false,
		"\xa0\x86\x00\x01":             false, // a tag of more bytes than it needs
		"\xa0\x06\x81\x00":             false, // so a number
		"\xa2\x06\x82\x00ab":           false, // so a length
		"\xa0\x06\x01\xa0\x06\x81\x00": false,
		"\xa0\x06\x01\xa0":             false,
		"\xa0\x06\xff\xff\xff\xff\xff\xff\xff\xff\xff\x01": true,
		"\xa0\x06\xff\xff\xff\xff\xff\xff\xff\xff\xff\x02": false,
		"\x80\x80\x80\x80\x10\x01":                         false,
	} {
		hold(t, p, "two.All", unknown(text), want)
		hold(t, p, "two.None", unknown(text), want)
		hold(t, p, "three.All", msg(slot(11, api.Val{M: unknown(text)})), want)
		hold(t, p, "none", unknown(text), false)
	}
	hold(t, p, "two.None", unknown(strings.Repeat("\x08\x01", 50000)), true)
	hold(t, p, "two.None", unknown(strings.Repeat("\x08\x01", 50000)+"\x08"), false)
}

// P17.1: Unknown is what no field takes, by the kinds on which the fields' types stand.
func TestUnknownKinds(t *testing.T) {
	p := made(t, base()...)
	own := map[int]int{}
	for _, kind := range types() {
		own[kind] = api.WireVarint
		switch kind {
		case api.TFixed64, api.TSfixed64, api.TDouble:
			own[kind] = api.WireI64
		case api.TFixed32, api.TSfixed32, api.TFloat:
			own[kind] = api.WireI32
		case api.TString, api.TBytes, api.TMessage:
			own[kind] = api.WireLen
		}
	}
	for _, kind := range types() {
		for _, wire := range []int{api.WireVarint, api.WireI64, api.WireI32, api.WireLen} {
			for _, full := range []string{"two.All", "three.All"} {
				hold(t, p, full, unknown(put(kind, wire, 5)), wire != own[kind])
				hold(t, p, full, unknown(put(100+kind, wire, 5)), wire != own[kind] && wire != api.WireLen)
				hold(t, p, full, unknown(put(1000, wire, 5)+put(kind, wire, 5)+put(1000, wire, 5)), wire != own[kind])
				hold(t, p, full, unknown(put(1000, wire, 5)+put(10, wire, 5)+put(299, wire, 5)+put(300, wire, 5)), true)
				hold(t, p, full, unknown(put(200, wire, 5)), wire != api.WireLen)
				hold(t, p, full, unknown(put(202, wire, 5)), wire != api.WireVarint)
			}
		}
	}
	// A field that is there has no part in it.
	hold(t, p, "two.All", api.Msg{Slots: []api.Slot{slot(3, n(1))}, Unknown: []byte(put(3, api.WireLen, 0) + put(4, api.WireI32, 0))}, true)
	hold(t, p, "two.All", api.Msg{Slots: []api.Slot{slot(3, n(1))}, Unknown: []byte(put(3, api.WireVarint, 0))}, false)
}

// P17.1: Unknown has the numbers that an enum hasn't, if its file isn't proto3, as they are told.
func TestUnknownEnums(t *testing.T) {
	p := made(t, base()...)
	has := []uint64{0, 5, minus(1), minus(1 << 31), 1<<31 - 1}
	for _, number := range append(edges(), 5, 6, 1<<32+6, minus(3)) {
		want := value.Scalar(api.TEnum, n(number)) && !slices.Contains(has, number)
		for _, num := range []int{14, 114} {
			hold(t, p, "two.All", unknown(put(num, api.WireVarint, number)), want)
			hold(t, p, "three.All", unknown(put(num, api.WireVarint, number)), false)
			hold(t, p, "two.All", unknown(put(num, api.WireVarint, 6)+put(num, api.WireVarint, number)), want)
			hold(t, p, "two.All", unknown(put(num, api.WireLen, number)), num == 14)
		}
		for _, num := range []int{2, 3} {
			hold(t, p, "two.Mixed", unknown(put(num, api.WireVarint, number)), false)
			hold(t, p, "three.Mixed", unknown(put(num, api.WireVarint, number)), want)
		}
	}
}
