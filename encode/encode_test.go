package encode_test

import (
	"encoding/hex"
	"math"
	"reflect"
	"slices"
	"strings"
	"testing"
	"unsafe"

	"glossary/api"
	"glossary/copies"
	"glossary/encode"
	"glossary/pool"
	"glossary/value"
)

// worths are what each type's numbers are without a tag, in hexadecimal, and on which kind of field.
type worths struct {
	kind int
	wire int
	laid map[uint64]string
}

func numbers() []worths {
	return []worths{
		{api.TDouble, api.WireI64, map[uint64]string{0: "0000000000000000", 0x3ff0000000000000: "000000000000f03f", 1 << 63: "0000000000000080", minus(1): "ffffffffffffffff"}},
		{api.TFloat, api.WireI32, map[uint64]string{0: "00000000", 0x3f800000: "0000803f", 1 << 31: "00000080", 1<<32 - 1: "ffffffff"}},
		{api.TInt64, api.WireVarint, map[uint64]string{0: "00", 1: "01", 127: "7f", 128: "8001", 300: "ac02", 1<<63 - 1: "ffffffffffffffff7f", 1 << 63: "80808080808080808001", minus(1): "ffffffffffffffffff01"}},
		{api.TUint64, api.WireVarint, map[uint64]string{0: "00", 1: "01", 300: "ac02", 1 << 63: "80808080808080808001", minus(1): "ffffffffffffffffff01"}},
		{api.TInt32, api.WireVarint, map[uint64]string{0: "00", 1: "01", 300: "ac02", 1<<31 - 1: "ffffffff07", minus(1 << 31): "80808080f8ffffffff01", minus(1): "ffffffffffffffffff01"}},
		{api.TFixed64, api.WireI64, map[uint64]string{0: "0000000000000000", 1: "0100000000000000", 0x0102030405060708: "0807060504030201", minus(1): "ffffffffffffffff"}},
		{api.TFixed32, api.WireI32, map[uint64]string{0: "00000000", 1: "01000000", 0x01020304: "04030201", 1<<32 - 1: "ffffffff"}},
		{api.TBool, api.WireVarint, map[uint64]string{0: "00", 1: "01"}},
		{api.TUint32, api.WireVarint, map[uint64]string{0: "00", 1: "01", 300: "ac02", 1 << 31: "8080808008", 1<<32 - 1: "ffffffff0f"}},
		{api.TEnum, api.WireVarint, map[uint64]string{0: "00", 5: "05", 1<<31 - 1: "ffffffff07", minus(1 << 31): "80808080f8ffffffff01", minus(1): "ffffffffffffffffff01"}},
		{api.TSfixed32, api.WireI32, map[uint64]string{0: "00000000", 1: "01000000", 1<<31 - 1: "ffffff7f", minus(1 << 31): "00000080", minus(2): "feffffff", minus(1): "ffffffff"}},
		{api.TSfixed64, api.WireI64, map[uint64]string{0: "0000000000000000", 1: "0100000000000000", 1 << 63: "0000000000000080", minus(2): "feffffffffffffff"}},
		{api.TSint32, api.WireVarint, map[uint64]string{0: "00", 1: "02", 64: "8001", 1<<31 - 1: "feffffff0f", minus(1 << 31): "ffffffff0f", minus(2): "03", minus(1): "01"}},
		{api.TSint64, api.WireVarint, map[uint64]string{0: "00", 1: "02", 1<<63 - 1: "feffffffffffffffff01", 1 << 63: "ffffffffffffffffff01", minus(64): "7f", minus(1): "01"}},
	}
}

// holdScalar holds Scalar against bytes, in hexadecimal, and a kind.
func holdScalar(t *testing.T, kind int, v api.Val, want string, wire int) {
	t.Helper()
	if got, is := encode.Scalar(kind, v); hex.EncodeToString(got) != want || is != wire {
		t.Errorf("%+v of type %d: %x, %d, want %s, %d", v, kind, got, is, want, wire)
	}
}

// P18.2: of each type the bytes of its numbers; nothing but the number is asked.
func TestScalar(t *testing.T) {
	for _, x := range numbers() {
		for number, want := range x.laid {
			holdScalar(t, x.kind, n(number), want, x.wire)
			holdScalar(t, x.kind, api.Val{N: number, B: []byte("a"), M: msg(slot(1, n(1)))}, want, x.wire)
			if !value.Scalar(x.kind, n(number)) {
				t.Errorf("%d is none of type %d", number, x.kind)
			}
		}
	}
}

// P18.2: numbers that are none of the type are laid as all others are.
func TestScalarUnfit(t *testing.T) {
	for _, x := range []struct {
		kind   int
		number uint64
		want   string
		wire   int
	}{
		{api.TBool, 2, "02", api.WireVarint},
		{api.TBool, minus(1), "ffffffffffffffffff01", api.WireVarint},
		{api.TInt32, 1 << 32, "8080808010", api.WireVarint},
		{api.TInt32, 1 << 31, "8080808008", api.WireVarint},
		{api.TUint32, minus(1), "ffffffffffffffffff01", api.WireVarint},
		{api.TEnum, 1 << 31, "8080808008", api.WireVarint},
		{api.TSint32, 1 << 31, "8080808010", api.WireVarint},
		{api.TSint32, 1 << 63, "ffffffffffffffffff01", api.WireVarint},
		{api.TFixed32, 1<<32 + 1, "01000000", api.WireI32},
		{api.TFloat, 1 << 63, "00000000", api.WireI32},
		{api.TSfixed32, 1<<32 - 1, "ffffffff", api.WireI32},
	} {
		holdScalar(t, x.kind, n(x.number), x.want, x.wire)
	}
}

// P18.2: what has no number has no bytes, and stands on WireLen.
func TestScalarOthers(t *testing.T) {
	for _, kind := range []int{api.TString, api.TBytes, api.TMessage, 0, 10, 19, -1, -3, 1<<32 + api.TInt32, math.MaxInt, math.MinInt} {
		for _, v := range []api.Val{{}, n(1), b("a"), in(slot(1, n(1))), {N: 5, B: []byte("ab"), M: unknown("\x08\x01")}} {
			holdScalar(t, kind, v, "", api.WireLen)
		}
	}
}

// P18.1: the chapter's example.
func TestExample(t *testing.T) {
	p := made(t, api.File{Name: "x", Messages: []api.Message{{Name: "A", Fields: []api.Field{field("b", 1, 0, api.TSint32, "")}}}})
	hold(t, p, "A", msg(slot(1, n(minus(1)))), "0801")
}

// hexTag answers a field's tag, in hexadecimal.
func hexTag(num, kind int) string {
	return hex.EncodeToString([]byte(tag(num, kind)))
}

// P18.1: numbers of each type: one, several one by one, and several in one, as the field or its file has it.
func TestNumbers(t *testing.T) {
	p := made(t, base()...)
	for _, x := range numbers() {
		for number, laid := range x.laid {
			if x.kind == api.TEnum && number == 1 {
				continue
			}
			one := hexTag(x.kind, x.wire) + laid
			hold(t, p, "two.All", msg(ones(x.kind, number)), one)
			hold(t, p, "three.All", msg(ones(x.kind, number)), one)
			inOne := hex.EncodeToString([]byte{byte(len(laid) * 3 / 2)}) + laid + laid + laid
			for _, repeated := range []struct {
				full   string
				num    int
				packed bool
			}{{"two.All", 100, false}, {"two.All", 200, true}, {"two.All", 300, false}, {"three.All", 100, true}, {"three.All", 200, true}, {"three.All", 300, false}} {
				num := repeated.num + x.kind
				want := strings.Repeat(hexTag(num, x.wire)+laid, 3)
				if repeated.packed {
					want = hexTag(num, api.WireLen) + inOne
				}
				hold(t, p, repeated.full, msg(ones(num, number, number, number)), want)
			}
		}
	}
}

// P18.1: worths stand in their order; one alone is written in one, too.
func TestInOne(t *testing.T) {
	p := made(t, base()...)
	hold(t, p, "two.All", msg(ones(105, 3, 0, 300, minus(1))), "c80603c80600c806ac02c806ffffffffffffffffff01")
	hold(t, p, "two.All", msg(ones(205, 3, 0, 300, minus(1))), "ea0c0e0300ac02ffffffffffffffffff01")
	hold(t, p, "three.All", msg(ones(105, 3, 0, 300, minus(1))), "ca060e0300ac02ffffffffffffffffff01")
	hold(t, p, "three.All", msg(ones(105, 3)), "ca060103")
	hold(t, p, "three.All", msg(ones(107, 1)), "da060401000000")
	hold(t, p, "three.All", msg(ones(117, minus(1), 1, minus(2))), "aa0703010203")
	many := ones(108)
	for range 300 {
		many.Vals = append(many.Vals, n(1))
	}
	hold(t, p, "three.All", msg(many), "e206ac02"+strings.Repeat("01", 300))
	hold(t, p, "two.All", msg(many), strings.Repeat("e00601", 300))
}

// P18.1: texts and bytes; they are never written in one, whatever the Options say.
func TestTexts(t *testing.T) {
	p := made(t, base()...)
	for _, full := range []string{"two.All", "three.All"} {
		hold(t, p, full, msg(slot(9, b("hi"))), "4a026869")
		hold(t, p, full, msg(slot(9, b(""))), "4a00")
		hold(t, p, full, msg(slot(9, b("\xe2\x82\xac"))), "4a03e282ac")
		hold(t, p, full, msg(slot(12, b("\xff\x00"))), "6202ff00")
		hold(t, p, full, msg(slot(12, b(strings.Repeat("a", 300)))), "62ac02"+strings.Repeat("61", 300))
		for num, tag := range map[int]string{109: "ea06", 112: "8207", 209: "8a0d", 212: "a20d", 309: "aa13", 312: "c213"} {
			hold(t, p, full, msg(slot(num, b("a"), b(""), b("bc"))), tag+"0161"+tag+"00"+tag+"026263")
		}
	}
	hold(t, p, "two.All", msg(slot(9, b("\xff"))), "4a01ff")
	refuse(t, p, "three.All", msg(slot(9, b("\xff"))))
}

// P18.1: messages, within one another too, each with what it has, and nothing of one that has nothing.
func TestMessages(t *testing.T) {
	p := made(t, base()...)
	for _, full := range []string{"two.All", "three.All"} {
		hold(t, p, full, api.Msg{}, "")
		hold(t, p, full, msg(slot(11, in())), "5a00")
		hold(t, p, full, msg(slot(11, in(ones(3, 5)))), "5a021805")
		hold(t, p, full, msg(slot(11, in(ones(3, 5), slot(11, in(slot(9, b("a"))))))), "5a0718055a034a0161")
		hold(t, p, full, msg(slot(11, in(slot(111, in(), in(ones(8, 1)), in())))), "5a0bfa0600fa06024001fa0600")
		for num, tag := range map[int]string{111: "fa06", 211: "9a0d", 311: "ba13"} {
			hold(t, p, full, msg(slot(num, in(ones(3, 5)), in(), in(ones(3, 6)))), tag+"021805"+tag+"00"+tag+"021806")
		}
	}
	// What stands in a message is written as its own file has it.
	hold(t, p, "two.All", msg(slot(1004, in(ones(105, 1, 2)))), "e23e05"+"ca06020102")
	hold(t, p, "three.All", msg(slot(1004, in(ones(105, 1, 2), slot(1004, in(ones(105, 1, 2)))))), "e23e0e"+"c80601c80602"+"e23e05"+"ca06020102")
	hold(t, p, "two.Map", msg(slot(1, in(slot(1, b("a")), ones(2, minus(1))), in(ones(2, 1)))), "0a050a016110010a021002")
	hold(t, p, "two.Need", msg(ones(1, 7), slot(2, in(ones(1, 0)))), "080712020800")
	hold(t, p, "two.One", msg(slot(2, b("a"))), "120161")
}

// P18.1: whether an extension is written in one, its Options say, or else its own file.
func TestExtensions(t *testing.T) {
	p := made(t, base()...)
	// In the file three, which is proto3, of two's message; and the other way round.
	hold(t, p, "two.All", msg(ones(1000, 1, 2)), "c23e020102")
	hold(t, p, "three.All", msg(ones(1000, 1, 2)), "c03e01c03e02")
	hold(t, p, "two.All", msg(ones(1005, 1, 2)), "ea3e080100000002000000")
	hold(t, p, "three.All", msg(ones(1005, 1, 2)), "ed3e01000000ed3e02000000")
	// Of a message of its own file.
	hold(t, p, "two.All", msg(ones(1003, 1, 2)), "d83e02d83e04")
	hold(t, p, "three.All", msg(ones(1003, 1, 2)), "da3e020204")
	for _, full := range []string{"two.All", "three.All"} {
		hold(t, p, full, msg(ones(1001, 5, 0)), "c83e05c83e00")
		hold(t, p, full, msg(ones(1002, 1, 0)), "d23e020100")
	}
	hold(t, p, "two.All", msg(ones(105, 1, 2), ones(1000, 1, 2), ones(1005, 1)), "c80601c80602"+"c23e020102"+"ea3e0401000000")
	hold(t, p, "three.All", msg(ones(105, 1, 2), ones(1000, 1, 2), ones(1005, 1)), "ca06020102"+"c03e01c03e02"+"ed3e01000000")
}

// P18.1: of one Number the first counts: fields first, then extensions by their full names.
func TestFirstCounts(t *testing.T) {
	x := func(name string, number int64, kind int) api.Field {
		return extension(name, ".m.M", number, 3, kind, "")
	}
	m := api.Message{Name: "M", Fields: []api.Field{field("a", 1, 3, api.TInt32, ""), says(field("b", 1, 3, api.TSint32, ""), "\x10\x01"), field("c", 2, 3, api.TBytes, ""), field("d", 2, 3, api.TInt32, ""), field("e", 3, 0, api.TSint32, "")}}
	p := made(t, api.File{Name: "a", Package: "m", Messages: []api.Message{m}, Extends: []api.Field{x("z", 4, api.TInt32), x("z5", 5, api.TSint32), x("z6", 6, api.TSint32)}},
		api.File{Name: "b", Package: "a", Syntax: "proto3", Extends: []api.Field{x("a", 3, api.TInt32), x("a1", 1, api.TInt32), x("a4", 4, api.TSint32)}},
		api.File{Name: "c", Package: "z", Syntax: "proto3", Extends: []api.Field{x("a5", 5, api.TInt32)}},
		api.File{Name: "d", Package: "m.o", Syntax: "proto3", Extends: []api.Field{x("a6", 6, api.TInt32)}})
	hold(t, p, "m.M", msg(ones(1, 1, 1)), "08010801")
	hold(t, p, "m.M", msg(slot(2, b("a"))), "120161")
	hold(t, p, "m.M", msg(ones(3, 1)), "1802")
	hold(t, p, "m.M", msg(ones(4, 1, 1)), "22020202") // a.a4, of a proto3 file, is ahead of m.z
	hold(t, p, "m.M", msg(ones(5, 1, 1)), "28022802") // m.z5 is ahead of z.a5
	hold(t, p, "m.M", msg(ones(6, 1, 1)), "32020101") // m.o.a6 is ahead of m.z6
}

// P18.1: what isn't known stands behind all else, as it is.
func TestUnknown(t *testing.T) {
	p := made(t, base()...)
	with := func(m api.Msg, unknown string) api.Msg { return api.Msg{Slots: m.Slots, Unknown: []byte(unknown)} }
	for _, full := range []string{"two.All", "three.All"} {
		hold(t, p, full, unknown("\xa0\x1f\x01"), "a01f01")
		hold(t, p, full, with(msg(ones(3, 5)), "\xa0\x1f\x01"), "1805a01f01")
		hold(t, p, full, with(msg(ones(3, 5)), "\x0a\x01a\x08\x01\x0a\x01a"), "1805"+"0a016108010a0161")
		hold(t, p, full, msg(slot(11, api.Val{M: unknown("\xa0\x1f\x01")})), "5a03a01f01")
		hold(t, p, full, with(msg(slot(11, api.Val{M: with(msg(ones(3, 5)), "\xa0\x1f\x01")})), "\x0a\x00"), "5a051805a01f01"+"0a00")
		hold(t, p, full, with(msg(slot(111, api.Val{M: unknown("\xa0\x1f\x01")}, api.Val{M: unknown("\xa0\x1f\x02")}, in())), "\xa0\x1f\x03"), "fa0603a01f01fa0603a01f02fa0600a01f03")
		refuse(t, p, full, unknown("\x18\x05"))
		refuse(t, p, full, unknown("\xa0\x1f"))
		refuse(t, p, full, unknown("\xa0\x1f\x80\x00"))
	}
	hold(t, p, "two.None", unknown("\x18\x05\x09abcdefgh\x0dabcd\x0a\x01a"), "1805096162636465666768"+"0d61626364"+"0a0161")
	hold(t, p, "two.All", unknown("\x70\x07"), "7007")
	refuse(t, p, "three.All", unknown("\x70\x07"))
}

// P18.1: as deep as may be, and one more.
func TestDeep(t *testing.T) {
	p := made(t, base()...)
	want := "1805"
	for deep := 1; deep < 70; deep++ {
		m := nested(deep, 11, msg(ones(3, 5)))
		if deep > api.MaxDeep {
			refuse(t, p, "two.All", m)
			continue
		}
		hold(t, p, "two.All", m, want)
		bytes, _ := hex.DecodeString(want)
		want = hex.EncodeToString([]byte(within(11, string(bytes))))
	}
	// A message without anything doesn't count (P17.4).
	hold(t, p, "two.All", nested(3, 11, api.Msg{}), "5a025a00")
	if got, err := encode.Msg(p, "two.All", nested(65, 11, api.Msg{})); err != api.OK || !strings.HasSuffix(string(got), "\x5a\x02\x5a\x00") {
		t.Errorf("%x, %d", got, err)
	}
	refuse(t, p, "two.All", nested(66, 11, api.Msg{}))
}

// P18.1: ErrType of all that value.Fit doesn't take, and no bytes beside it.
func TestRefused(t *testing.T) {
	p := made(t, base()...)
	for _, full := range []string{"two", "two.E", "two.E0", "two.All.f3", "two.All.within", "two.x", "two.One.o", "none", "", ".two.All", "All", "two.All.", "two.Need"} {
		refuse(t, p, full, api.Msg{})
		refuse(t, p, full, unknown("\xa0\x1f\x01"))
	}
	for full, l := range map[string][]api.Msg{
		"two.All": {
			msg(ones(10, 1)), msg(ones(0, 1)), msg(ones(-1, 1)), msg(ones(math.MaxInt, 1)), msg(ones(3)), msg(ones(3, 1, 2)), msg(ones(103)), msg(ones(4, 1), ones(3, 1)), msg(ones(3, 1), ones(3, 1)),
			msg(ones(8, 2)), msg(ones(5, 1<<31)), msg(ones(7, 1<<32)), msg(ones(14, 6)), msg(ones(103, 1), ones(114, 0, 6)), msg(slot(3, b("a"))), msg(slot(3, in(ones(3, 1)))), msg(slot(9, n(1))), msg(slot(11, n(1))), msg(slot(11, b("a"))),
			msg(slot(11, in(ones(3, 5), ones(8, 2)))), msg(slot(111, in(), in(ones(10, 1)))), msg(slot(11, api.Val{M: unknown("\x18\x05")})),
		},
		"two.Need": {msg(slot(2, in(ones(1, 1)))), msg(ones(1, 1), slot(2, in()))},
		"two.One":  {msg(ones(1, 1), slot(2, b("a")))},
		"two.Map":  {msg(slot(1, in(slot(1, b("a"))), in(slot(1, b("a"))))), msg(slot(1, in(), in()))},
	} {
		for _, m := range l {
			if value.Fit(p, full, m) {
				t.Errorf("%s: %+v fits", full, m)
			}
			refuse(t, p, full, m)
		}
	}
	for _, none := range []*pool.Pool{nil, {}} {
		refuse(t, none, "two.All", api.Msg{})
		refuse(t, none, "", api.Msg{})
	}
	hold(t, made(t, api.File{Messages: []api.Message{{}}}), "", unknown("\x08\x01"), "0801")
}

// P18.1: numbers that no field on the wire has are none of a message that is written, wherever they stand.
func TestOutOfBounds(t *testing.T) {
	l := []api.Field{field("m", 5, 3, api.TMessage, ".M")}
	for _, number := range []int64{-1, 0, 1, api.MaxField, api.MaxField + 1, 1<<32 + 1, math.MaxInt64, math.MinInt64} {
		l = append(l, field("a", number, 3, api.TInt32, ""))
	}
	for i, syntax := range []string{"", "proto3"} {
		m := api.Message{Name: "M", Fields: slices.Clone(l)}
		for k := range m.Fields {
			m.Fields[k].Name += strings.Repeat("a", k)
		}
		p := made(t, api.File{Name: "x", Syntax: syntax, Messages: []api.Message{m}})
		hold(t, p, "M", msg(ones(1, 5)), []string{"0805", "0a0105"}[i])
		hold(t, p, "M", msg(ones(api.MaxField, 5)), []string{"f8ffffff0f05", "faffffff0f0105"}[i])
		for _, number := range []int{-1, 0, api.MaxField + 1, 1<<32 + 1, math.MaxInt, math.MinInt} {
			if !value.Fit(p, "M", msg(ones(number, 5))) {
				t.Errorf("%d doesn't fit", number)
			}
			refuse(t, p, "M", msg(ones(number, 5)))
			refuse(t, p, "M", msg(slot(5, in(ones(number, 5)))))
			refuse(t, p, "M", msg(slot(5, in(ones(1, 5)), in(slot(5, in(ones(number, 5)))), in(ones(1, 5)))))
		}
	}
}

// P1: messages that stand within themselves have no end, and Msg has one.
func TestWithinItself(t *testing.T) {
	p := made(t, base()...)
	one := []api.Slot{slot(11, api.Val{})}
	one[0].Vals[0].M.Slots = one
	two := []api.Slot{slot(111, make([]api.Val, 2)...)}
	two[0].Vals[0].M.Slots, two[0].Vals[1].M.Slots = two, two
	last := []api.Slot{ones(3, 5), slot(11, api.Val{})}
	last[1].Vals[0].M.Slots = last
	for _, l := range [][]api.Slot{one, two, last} {
		for _, full := range []string{"two.All", "three.All", "two.None", "none"} {
			if got, err := encode.Msg(p, full, msg(l...)); err != api.ErrType || len(got) > 0 {
				t.Errorf("%x, %d", got, err)
			}
		}
		for _, kind := range types() {
			encode.Scalar(kind, api.Val{M: msg(l...)})
		}
	}
}

// P18.3, P3: messages that are the same have the same bytes; nothing and none are the same.
func TestOneWay(t *testing.T) {
	p := made(t, base()...)
	vals := func() []api.Val { return []api.Val{in(ones(3, 5), slot(12, b(""))), in()} }
	nils := msg(slot(9, api.Val{}), slot(11, vals()[0]), slot(111, vals()...), slot(1000, n(0)))
	nones := copied(nils)
	nones.Unknown = []byte{}
	nones.Slots[0].Vals[0] = api.Val{B: []byte{}, M: api.Msg{Slots: []api.Slot{}, Unknown: []byte{}}}
	nones.Slots[2].Vals[1].M = api.Msg{Slots: []api.Slot{}, Unknown: []byte{}}
	behind := copied(nils)
	behind.Slots = append(behind.Slots, ones(1001, 1))[:4]
	behind.Slots[0].Vals[0].B = []byte("a")[:0]
	behind.Slots[2].Vals = append(behind.Slots[2].Vals, in())[:2]
	behind.Slots[3].Vals = append(behind.Slots[3].Vals, n(1))[:1]
	behind.Unknown = []byte("\xa0\x1f\x01")[:0]
	for _, m := range []api.Msg{nils, nones, behind} {
		if !value.Same(m, nils) {
			t.Fatalf("%+v isn't the same", m)
		}
		for range 3 {
			hold(t, p, "two.All", m, "4a00"+"5a0418056200"+"fa060418056200"+"fa0600"+"c23e0100")
		}
		hold(t, made(t, base()...), "two.All", m, "4a00"+"5a0418056200"+"fa060418056200"+"fa0600"+"c23e0100")
	}
}

// P2: what lies behind a length isn't read.
func TestBehindLength(t *testing.T) {
	p := made(t, base()...)
	slots := []api.Slot{ones(3, 1), ones(4, 1), ones(4)}
	vals := []api.Val{n(1), n(2), b("a")}
	hold(t, p, "two.All", api.Msg{Slots: slots[:2], Unknown: []byte("\xa0\x1f\x01\x00")[:3]}, "18012001a01f01")
	refuse(t, p, "two.All", msg(slots...))
	hold(t, p, "two.All", msg(slot(3, vals[:1]...)), "1801")
	hold(t, p, "three.All", msg(slot(103, vals[:2]...)), "ba06020102")
	hold(t, p, "two.All", msg(slot(9, api.Val{B: []byte("abc")[:2]})), "4a026162")
	if got, _ := encode.Scalar(api.TBytes, api.Val{B: []byte("a")[:0]}); len(got) > 0 {
		t.Errorf("%x", got)
	}
}

// memory answers that of all lists, as far as they have room, and of all texts, from byte to byte.
func memory(v reflect.Value) [][2]uintptr {
	var l [][2]uintptr
	switch v.Kind() {
	case reflect.Struct:
		for i := range v.NumField() {
			l = append(l, memory(v.Field(i))...)
		}
	case reflect.Interface:
		l = memory(v.Elem())
	case reflect.Slice:
		l = append(l, [2]uintptr{v.Pointer(), v.Pointer() + uintptr(v.Cap())*v.Type().Elem().Size()})
		for i := range v.Len() {
			l = append(l, memory(v.Index(i))...)
		}
	case reflect.String:
		from := uintptr(unsafe.Pointer(unsafe.StringData(v.String())))
		l = append(l, [2]uintptr{from, from + uintptr(v.Len())})
	}
	return slices.DeleteFunc(l, func(s [2]uintptr) bool { return s[0] == s[1] })
}

// P2: what is answered shares no memory with what is given, with what the pool keeps, or with another answer.
func TestMemory(t *testing.T) {
	way := copies.Way{Levels: api.MaxDeep}
	l := base()
	for i := range l {
		l[i] = way.File(l[i]) // texts that stand in a source lie together
	}
	p := made(t, l...)
	kept, _ := p.Message("two.All")
	room := append(make([]byte, 0, 100), "\xa0\x1f\x01"...)
	// What nothing holds any more may lie where what comes later does.
	held := []any{l, kept}
	for _, m := range []api.Msg{{Unknown: room}, msg(slot(9, b("abc"))), msg(slot(11, api.Val{M: unknown("\xa0\x1f\x01")})), {Slots: []api.Slot{ones(3, 5), ones(203, 5, 6)}, Unknown: []byte("\xa0\x1f\x01")}} {
		for range 2 {
			got, err := encode.Msg(p, "two.All", m)
			if err != api.OK {
				t.Fatal(err)
			}
			held = append(held, got)
		}
		held = append(held, m)
	}
	for _, kind := range types() {
		v := api.Val{N: 1, B: []byte("abc")}
		for range 2 {
			got, _ := encode.Scalar(kind, v)
			held = append(held, got)
		}
		held = append(held, v)
	}
	spans := memory(reflect.ValueOf(held))
	slices.SortFunc(spans, func(a, b [2]uintptr) int { return int(a[0]) - int(b[0]) })
	for i := range spans[1:] {
		if spans[i][1] > spans[i+1][0] {
			t.Errorf("%x and %x share memory", spans[i], spans[i+1])
		}
	}
	if !reflect.DeepEqual(room[:cap(room)][3:], make([]byte, cap(room)-3)) {
		t.Error("something is written behind a length")
	}
}
