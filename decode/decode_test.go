package decode_test

import (
	"encoding/hex"
	"slices"
	"strconv"
	"strings"
	"testing"

	"glossary/api"
	"glossary/decode"
)

// P19.1: the chapter's example.
func TestExample(t *testing.T) {
	hold(t, of(t, field("a", 1, 0, api.TInt32, "")), "M", "\x08\x01\x08\x02", "1=2")
}

// laidOn answers a number as a field of a kind.
func laidOn(num, wire int, n uint64) string {
	switch wire {
	case api.WireI64:
		return i64(num, n)
	case api.WireI32:
		return i32(num, uint32(n))
	}
	return uv(num, n)
}

// bare answers a number's bytes without a tag.
func bare(wire int, n uint64) string {
	return laidOn(1, wire, n)[1:]
}

func decimal(n uint64) string { return strconv.FormatInt(int64(n), 10) }

// P19.1: numbers of each type: one, several one by one, several in one, and both, whatever the field or its file says.
func TestNumbers(t *testing.T) {
	p := made(t, base()...)
	for _, full := range []string{"two.All", "three.All"} {
		for _, x := range numbers() {
			for laid, n := range x.has {
				if x.kind == api.TEnum && !slices.Contains([]uint64{0, 5, minus(1), minus(1 << 31), 1<<31 - 1}, n) {
					continue
				}
				want := decimal(n)
				hold(t, p, full, laidOn(x.kind, x.wire, laid), strconv.Itoa(x.kind)+"="+want)
				for _, num := range []int{100 + x.kind, 200 + x.kind} {
					slot := strconv.Itoa(num) + "=" + want
					one := laidOn(num, x.wire, laid)
					inOne := in(num, bare(x.wire, laid), bare(x.wire, laid))
					hold(t, p, full, one, slot)
					hold(t, p, full, in(num, bare(x.wire, laid)), slot)
					hold(t, p, full, one+one, slot+","+want)
					hold(t, p, full, inOne, slot+","+want)
					hold(t, p, full, one+inOne+one+inOne, slot+strings.Repeat(","+want, 5))
				}
			}
		}
	}
}

// P19.1: worths stand in the order in which they come, one by one or in one.
func TestInOne(t *testing.T) {
	holdAll(t, made(t, base()...), "two.All", []try{
		{in(105, "\x03\x00\xac\x02") + uv(105, 7) + in(105, "\x01"), "105=3,0,300,7,1"},
		{uv(105, 7) + in(105) + uv(105, 8), "105=7,8"},
		{in(105), ""},
		{in(105) + in(205) + in(101) + in(102), ""},
		{in(107, "\x01\x00\x00\x00\x02\x00\x00\x00") + i32(107, 3), "107=1,2,3"},
		{in(116, "\x01\x00\x00\x00\x00\x00\x00\x00\xff\xff\xff\xff\xff\xff\xff\xff"), "116=1,-1"},
		{in(108, "\x00\x02\x80\x01\x80\x80\x00"), "108=0,1,1,0"},
		{in(117, "\x01\x02\x81\x00"), "117=-1,1,-1"}, // a number in more bytes than it needs
		{in(108, strings.Repeat("\x01", 1000)), "108=" + strings.Repeat("1,", 999) + "1"},
		// One that isn't repeated takes no list.
		{in(5, "\x03"), "?" + hex.EncodeToString([]byte(in(5, "\x03")))},
		{in(7, "\x03\x00\x00\x00") + i32(7, 1) + in(7), "7=1 ?" + hex.EncodeToString([]byte(in(7, "\x03\x00\x00\x00")+in(7)))},
		{in(14, "\x05"), "?" + hex.EncodeToString([]byte(in(14, "\x05")))},
	})
}

// P19.1: ErrWorth of a list that doesn't end where its bytes do.
func TestWorth(t *testing.T) {
	p := made(t, base()...)
	for _, x := range numbers() {
		size := map[int]int{api.WireI64: 8, api.WireI32: 4}[x.wire]
		for _, num := range []int{100 + x.kind, 200 + x.kind} {
			if size == 0 {
				for _, list := range []string{"\x80", "\x01\x80", "\xff\xff", "\x01\x02\x03\xff\xff\xff\xff\xff\xff\xff\xff\xff", strings.Repeat("\x80", 9), strings.Repeat("\x80", 9) + "\x02", strings.Repeat("\x80", 10) + "\x01", strings.Repeat("\xff", 20)} {
					refuse(t, p, "two.All", in(num, list), api.ErrWorth)
					refuse(t, p, "three.All", in(num, list), api.ErrWorth)
				}
				continue
			}
			for count := range 3 * size {
				if count%size != 0 {
					refuse(t, p, "two.All", in(num, strings.Repeat("\x01", count)), api.ErrWorth)
				}
			}
		}
		// One by one, a number is whole or the bytes are no fields.
		if size == 0 {
			refuse(t, p, "two.All", tag(100+x.kind, x.wire)+"\x80", api.ErrVarint)
		} else {
			refuse(t, p, "two.All", tag(100+x.kind, x.wire)+strings.Repeat("\x01", size-1), api.ErrWire)
		}
	}
	hold(t, p, "two.All", in(5, "\x80"), "?"+hex.EncodeToString([]byte(in(5, "\x80"))))
	hold(t, p, "two.All", in(112, "\x80")+in(109, "\xff"), `109="\xff" 112="\x80"`)
}

// P19.1: what stands on another kind than the field's isn't its.
func TestOtherKinds(t *testing.T) {
	p := made(t, base()...)
	wires := map[int]int{api.TString: api.WireLen, api.TBytes: api.WireLen, api.TMessage: api.WireLen}
	for _, x := range numbers() {
		wires[x.kind] = x.wire
	}
	for kind, wire := range wires {
		for _, num := range []int{kind, 100 + kind, 200 + kind} {
			for other, one := range map[int]string{api.WireVarint: uv(num, 1), api.WireI64: i64(num, 1), api.WireI32: i32(num, 1)} {
				if other != wire {
					hold(t, p, "two.All", one, "?"+hex.EncodeToString([]byte(one)))
					hold(t, p, "three.All", uv(99, 1)+one, "?9806"+"01"+hex.EncodeToString([]byte(one)))
				}
			}
		}
	}
}

// P19.1: texts are characters in a proto3 file's field; bytes are any.
func TestTexts(t *testing.T) {
	p := made(t, base()...)
	for _, full := range []string{"two.All", "three.All"} {
		holdAll(t, p, full, []try{
			{in(9, "hi"), `9="hi"`},
			{in(9), "9=0"},
			{in(9, "a") + in(9, "b"), `9="b"`},
			{in(9, "a") + in(9), "9=0"},
			{in(9, "\xe2\x82\xac\x00"), "9=" + strconv.Quote("€\x00")},
			{in(12, "\xff\x00"), `12="\xff\x00"`},
			{in(12, "a") + in(12, "\x80"), `12="\x80"`},
			{in(109, "a") + in(109) + in(109, "bc"), `109="a",0,"bc"`},
			{in(112, "\xff") + in(112) + in(112, "bc"), `112="\xff",0,"bc"`},
			{in(209, "a") + in(209, "a"), `209="a","a"`},
		})
	}
	for _, broken := range []string{"\xff", "a\xff", "\xe2\x82", "\xed\xa0\x80", "\xc0\x80", "\xf4\x90\x80\x80", "\x80a"} {
		for _, num := range []int{9, 109, 209} {
			hold(t, p, "two.All", in(num, broken), strconv.Itoa(num)+"="+strconv.Quote(broken))
			refuse(t, p, "three.All", in(num, broken), api.ErrText)
			refuse(t, p, "three.All", in(num, broken)+in(num, "a"), api.ErrText)
		}
		// An extension is of its own file, whatever the message is of.
		refuse(t, p, "two.All", in(1000, broken), api.ErrText)
		refuse(t, p, "two.All", in(1001, "a")+in(1001, broken), api.ErrText)
		hold(t, p, "three.All", in(1000, broken)+in(1001, broken), "1000="+strconv.Quote(broken)+" 1001="+strconv.Quote(broken))
		// So is what stands in a message.
		refuse(t, p, "two.Mixed", in(1, in(9, broken)), api.ErrText)
		hold(t, p, "three.Mixed", in(1, in(9, broken)), "1={9="+strconv.Quote(broken)+"}")
		hold(t, p, "two.Mixed", in(1, in(1000, broken)), "1={1000="+strconv.Quote(broken)+"}")
	}
}

// P19.1: messages, within one another too; of repeated ones each is its own.
func TestMessages(t *testing.T) {
	p := made(t, base()...)
	for _, full := range []string{"two.All", "three.All"} {
		holdAll(t, p, full, []try{
			{"", ""},
			{in(11), "11=0"},
			{in(11, uv(3, 5)), "11={3=5}"},
			{in(11, uv(3, 5), in(11, in(9, "a"))), `11={3=5 11={9="a"}}`},
			{in(111) + in(111, uv(3, 5)) + in(111), "111=0,{3=5},0"},
			{in(111, uv(3, 5), in(111), in(111)) + in(111, uv(3, 5)), "111={3=5 111=0,0},{3=5}"},
			{in(211, uv(3, 5)) + in(211, uv(4, 6)), "211={3=5},{4=6}"},
			{in(11, uv(99, 1)), "11={?980601}"},
			{in(1004, uv(3, 5)) + in(11, in(1004, uv(3, 6))), "11={1004={3=6}} 1004={3=5}"},
			{uv(3, 5) + in(11, uv(3, 6)) + uv(4, 7), "3=5 4=7 11={3=6}"},
		})
	}
}

// P19.1: a message that comes again is put together with the one that is there, as if its bytes had come behind.
func TestTogether(t *testing.T) {
	p := made(t, base()...)
	for _, full := range []string{"two.All", "three.All"} {
		holdAll(t, p, full, []try{
			{in(11, uv(3, 5)) + in(11, uv(4, 6)), "11={3=5 4=6}"},
			{in(11, uv(3, 5)) + in(11, uv(3, 6)), "11={3=6}"},
			{in(11, uv(3, 5)) + in(11), "11={3=5}"},
			{in(11) + in(11), "11=0"},
			{in(11) + in(11, uv(3, 5)), "11={3=5}"},
			{in(11, uv(103, 5), in(103, "\x06")) + in(11, in(103, "\x07"), uv(103, 8)), "11={103=5,6,7,8}"},
			{in(11, in(9, "a"), in(109, "a")) + in(11, in(9, "b"), in(109, "b")), `11={9="b" 109="a","b"}`},
			{in(11, in(111, uv(3, 5))) + in(11, in(111, uv(4, 6))), "11={111={3=5},{4=6}}"},
			{in(11, in(11, uv(3, 5), in(11, uv(4, 6)))) + in(11, in(11, in(11, uv(3, 7)), uv(3, 8))), "11={11={3=8 11={3=7 4=6}}}"},
			{in(11, uv(99, 1), uv(98, 2)) + in(11, uv(99, 3)), "11={?9806019006029806" + "03}"},
			{uv(99, 9) + in(11, uv(99, 1)) + uv(99, 8) + in(11, uv(99, 2), uv(3, 5)), "11={3=5 ?980601980602} ?980609980608"},
			{in(11, uv(3, 5)) + uv(3, 1) + in(11, uv(4, 6)) + uv(3, 2) + in(11, uv(5, 7)), "3=2 11={3=5 4=6 5=7}"},
			{in(111, in(11, uv(3, 5)), in(11, uv(4, 6))) + in(111, in(11, uv(5, 7))), "111={11={3=5 4=6}},{11={5=7}}"},
			{in(1004, uv(3, 5)) + in(1004, uv(4, 6)), "1004={3=5 4=6}"},
		})
	}
	holdAll(t, p, "two.One", []try{
		{in(3, uv(1, 5)) + in(3, in(2, "a")), `3={2="a"}`},
		{in(3, uv(1, 5), uv(5, 6)) + in(3, in(2, "a")), `3={2="a" 5=6}`},
		{in(3, uv(1, 5), uv(8, 1)) + in(3, uv(8, 2), uv(7, 3)), "3={1=5 7=3 8=1,2}"},
		// What was taken away on the way stays away.
		{in(3, in(3, uv(1, 5))) + in(3, uv(1, 6), in(3, uv(7, 7))), "3={3={7=7}}"},
		{in(3, in(3, uv(7, 5))) + in(3, in(3, uv(1, 7))), "3={3={1=7 7=5}}"},
		{in(3, uv(7, 5)) + uv(1, 1) + in(3, uv(1, 7)), "3={1=7}"},
	})
	holdAll(t, p, "two.Maps", []try{
		{in(101, uv(1, 5)) + in(101, in(2, "a")), `101={1=5 2="a"}`}, // a field that isn't repeated is no map
		{in(101, uv(1, 5), in(2, "a")) + in(101, uv(1, 6)), `101={1=6 2="a"}`},
	})
}

// P19.1: a worth takes the place of the one that is there, if the field isn't repeated.
func TestAgain(t *testing.T) {
	p := made(t, base()...)
	for _, full := range []string{"two.All", "three.All"} {
		holdAll(t, p, full, []try{
			{uv(3, 1) + uv(3, 2) + uv(3, 3), "3=3"},
			{uv(3, 1) + uv(3, 0), "3=0"},
			{i64(1, 1) + i64(1, 2), "1=2"},
			{i32(7, 1) + i32(7, 2), "7=2"},
			{uv(14, 5) + uv(14, 0), "14=0"},
			{uv(13, 2) + uv(3, 1) + uv(13, 1), "3=1 13=1"},
			{uv(18, 2) + uv(17, 1) + uv(18, 1), "17=-1 18=-1"},
		})
	}
	// Only LabelRepeated makes a list, whatever else a label is.
	for _, label := range []int{api.LabelNone, api.LabelOptional, api.LabelRequired, 4, -1} {
		f := field("a", 1, 0, api.TInt32, "")
		f.Label = label
		hold(t, of(t, f), "M", uv(1, 1)+uv(1, 2), "1=2")
		hold(t, of(t, f), "M", uv(1, 1)+in(1, "\x02"), "1=1 ?0a0102")
		f.Type, f.TypeName = api.TMessage, ".N"
		hold(t, of(t, f), "M", in(1, uv(1, 1))+in(1, uv(1, 2)), "1={?08010802}")
	}
}

// P19.1: fields come in any order, and stand by their numbers.
func TestOrder(t *testing.T) {
	p := made(t, base()...)
	holdAll(t, p, "two.All", []try{
		{uv(1005, 2) + uv(103, 5) + uv(4, 1) + uv(3, 2) + uv(103, 6) + in(12, "a"), `3=2 4=1 12="a" 103=5,6 1005=1`},
		{in(11, uv(5, 1), uv(3, 2)) + uv(3, 1), "3=1 11={3=2 5=1}"},
	})
}

// P19.1: a number that an enum hasn't is a field of its own, unless it is of a proto3 file.
func TestEnum(t *testing.T) {
	p := made(t, base()...)
	own := func(num int, n uint64) string { return "?" + hex.EncodeToString([]byte(uv(num, n))) }
	both := []try{
		{uv(14, 5), "14=5"}, {uv(14, 0), "14=0"}, {uv(14, minus(1)), "14=-1"}, {uv(14, 1<<32+5), "14=5"}, {uv(14, 1<<32-1), "14=-1"}, {uv(14, 1<<31), "14=-2147483648"}, {uv(14, 1<<63+1<<31-1), "14=2147483647"},
		{uv(114, 5) + in(114, "\x00\x05") + uv(114, 0), "114=5,0,5,0"},
	}
	holdAll(t, p, "two.All", both)
	holdAll(t, p, "three.All", both)
	holdAll(t, p, "two.All", []try{
		{uv(14, 6), own(14, 6)},
		{uv(14, minus(2)), own(14, minus(2))},
		{uv(14, 1<<32+6), own(14, 6)},
		{uv(14, 1<<31+1), own(14, minus(1<<31-1))},
		{uv(14, 1<<32-2), own(14, minus(2))},
		{uv(14, 5) + uv(14, 6), "14=5 " + own(14, 6)},
		{uv(14, 6) + uv(14, 5) + uv(14, 7), "14=5 " + own(14, 6) + own(14, 7)[1:]},
		{in(114, "\x05\x06\x00\x07") + uv(114, 8), "114=5,0 " + own(114, 6) + own(114, 7)[1:] + own(114, 8)[1:]},
		{in(214, "\x06"), own(214, 6)},
		{in(214, "\x06\x80\x80\x80\x80\x10\xfe\xff\xff\xff\x1f"), "214=0 " + own(214, 6) + own(214, minus(2))[1:]},
		{uv(99, 1) + uv(14, 6) + uv(99, 2), "?980601" + own(14, 6)[1:] + "980602"},
		{in(11, uv(14, 6)) + in(11, uv(14, 5), uv(14, 7)), "11={14=5 " + own(14, 6) + own(14, 7)[1:] + "}"},
		{uv(1002, 6) + uv(1003, 6), "1003=6 " + own(1002, 6)}, // two's enum, and three's
	})
	holdAll(t, p, "three.All", []try{
		{uv(14, 6), "14=6"},
		{uv(14, minus(2)), "14=-2"},
		{uv(14, 1<<32+6), "14=6"},
		{in(114, "\x05\x06\x00\x07"), "114=5,6,0,7"},
		{uv(1002, 6) + uv(1003, 6), "1002=6 " + own(1003, 6)},
	})
	// It is the enum's file that counts, not the field's.
	holdAll(t, p, "two.Mixed", []try{{uv(2, 6) + uv(3, 6) + in(3, "\x07"), "2=6 3=6,7"}})
	holdAll(t, p, "three.Mixed", []try{{uv(2, 6) + uv(3, 6) + in(3, "\x07\x05"), "3=5 " + own(2, 6) + own(3, 6)[1:] + own(3, 7)[1:]}})
}

// P19.1: an enum that isn't there has no numbers.
func TestNoEnum(t *testing.T) {
	for _, typed := range []string{"", ".", "E", ".none", ".M", ".E0", ".M.f"} {
		p := made(t, api.File{Name: "a", Messages: []api.Message{{Name: "M", Fields: []api.Field{field("f", 1, 0, api.TEnum, typed), field("l", 2, 3, api.TEnum, typed)}}}, Enums: []api.Enum{enum("E", 0, 1)}})
		hold(t, p, "M", uv(1, 0)+uv(1, 1<<32+1)+in(2, "\x00\x01"), "?08000801"+"10001001")
	}
	// Numbers of an enum that no check would take.
	p := made(t, api.File{Name: "a", Messages: []api.Message{{Name: "M", Fields: []api.Field{field("f", 1, 0, api.TEnum, ".E")}}}, Enums: []api.Enum{enum("E", 1<<32+5, 1<<31, 1, 1)}})
	hold(t, p, "M", uv(1, 1<<32+5), "?0805")
	hold(t, p, "M", uv(1, 1<<31), "?"+hex.EncodeToString([]byte(uv(1, minus(1<<31)))))
	hold(t, p, "M", uv(1, 1), "1=1")
}

// P19.1: what no field takes is kept, in the way in which wire.Put lays it, in its order.
func TestUnknown(t *testing.T) {
	p := made(t, base()...)
	holdAll(t, p, "two.None", []try{
		{uv(3, 5) + i64(1, 2) + i32(1, 3) + in(1, "a") + uv(3, 4), "?1805" + "090200000000000000" + "0d03000000" + "0a0161" + "1804"},
		{"\x88\x80\x00\x85\x80\x80\x00", "?0805"},                                                 // a tag and a number in more bytes than they need
		{"\x8a\x80\x00\x81\x80\x00a", "?0a0161"},                                                  // and a length
		{tag(api.MaxField, 0) + "\x01", "?f8ffffff0f01"},                                          // the greatest number
		{uv(1, minus(1)), "?08ffffffffffffffffff01"},                                              // and the greatest worth
		{in(1) + in(1, strings.Repeat("a", 200)), "?0a00" + "0ac801" + strings.Repeat("61", 200)}, // any length
	})
	holdAll(t, p, "two.All", []try{
		{uv(99, 1) + uv(3, 5) + uv(2000, 2), "3=5 ?980601" + "807d02"},
		{uv(10, 1) + in(10, "a"), "?5001" + "520161"},
		{uv(3, 5) + i64(3, 1) + i32(3, 1) + in(3, "a"), "3=5 ?" + "190100000000000000" + "1d01000000" + "1a0161"},
		{in(11, in(11, uv(99, 1)), uv(98, 1)) + uv(97, 1), "11={11={?980601} ?900601} ?880601"},
		{in(111, uv(99, 1)) + in(111) + in(111, uv(99, 2)), "111={?980601},0,{?980602}"},
		{uv(11, 1) + in(11, uv(3, 5)) + uv(111, 2), "11={3=5} ?5801f80602"},
	})
}

// P19.1: a worth takes away those of the others of its oneof, and of no other.
func TestOneof(t *testing.T) {
	p := made(t, base()...)
	for _, full := range []string{"two.One", "three.One"} {
		holdAll(t, p, full, []try{
			{uv(1, 1) + in(2, "a"), `2="a"`},
			{in(2, "a") + uv(1, 1), "1=1"},
			{in(2, "a") + uv(1, 1) + in(2, "b"), `2="b"`},
			{uv(1, 1) + uv(1, 2), "1=2"},
			{uv(1, 1) + uv(5, 2) + uv(7, 3) + uv(8, 4), "1=1 5=2 7=3 8=4"},
			{uv(1, 1) + uv(5, 2) + in(2) + uv(7, 3), "2=0 5=2 7=3"},
			{in(3, uv(1, 1)) + uv(1, 2), "1=2"},
			{in(3, uv(7, 1)) + uv(1, 2) + in(3, uv(8, 3)), "3={8=3}"}, // not with the one that was taken away
			{uv(1, 2) + in(3), "3=0"},
			{in(3, uv(1, 1), in(2, "a")) + in(3, uv(1, 5)), "3={1=5}"},
			{uv(4, 5) + uv(1, 1) + uv(4, 0), "4=0"},
			{uv(1, 1) + i64(2, 5), "1=1 ?110500000000000000"}, // no worth
		})
	}
	// Nor is a number that the enum hasn't.
	hold(t, p, "two.One", uv(1, 1)+uv(4, 6), "1=1 ?2006")
	hold(t, p, "three.One", uv(1, 1)+uv(4, 6), "4=6")
}

// P19.1: oneofs of fields that no check would take.
func TestOddOneof(t *testing.T) {
	l := []api.Field{oneof(field("a", 1, 0, api.TInt32, ""), -1), oneof(field("b", 2, 3, api.TInt32, ""), -1), oneof(field("c", 3, 3, api.TMessage, ".N"), 9), oneof(field("d", 4, 0, api.TInt32, ""), 9)}
	x := oneof(extension("x", ".M", 5, 0, api.TBytes, ""), 9)
	p := made(t, api.File{Name: "a", Messages: []api.Message{{Name: "M", Fields: l}, {Name: "N"}}, Extends: []api.Field{x}})
	holdAll(t, p, "M", []try{
		{uv(1, 1) + uv(2, 2) + uv(2, 3), "2=2,3"},
		{uv(2, 2) + uv(2, 3) + uv(1, 1), "1=1"},
		{uv(2, 2) + uv(1, 1) + uv(2, 3), "2=3"},
		{uv(1, 1) + in(2), "1=1"}, // a list of none is no worth
		{uv(1, 1) + in(2, "\x05\x06"), "2=5,6"},
		{uv(1, 1) + uv(4, 2) + in(3) + in(3), "1=1 3=0,0"},
		{in(3) + in(3) + in(5, "a"), `5="a"`},
		{in(5, "a") + uv(4, 2) + uv(2, 1), "2=1 4=2"},
	})
}

// P19.1: of a map's entries with one key the last is there, where it came.
func TestMaps(t *testing.T) {
	p := made(t, base()...)
	for _, full := range []string{"two.Maps", "three.Maps"} {
		holdAll(t, p, full, []try{
			{in(5, uv(1, 1), in(2, "a")) + in(5, uv(1, 2), in(2, "b")), `5={1=1 2="a"},{1=2 2="b"}`},
			{in(5, uv(1, 1), in(2, "a")) + in(5, uv(1, 2), in(2, "b")) + in(5, uv(1, 1), in(2, "c")), `5={1=2 2="b"},{1=1 2="c"}`},
			{in(5, uv(1, 1), in(2, "a")) + in(5, uv(1, 1)), "5={1=1}"}, // not put together
			{in(5, uv(1, 1)) + in(5, uv(1, 2)) + in(5, uv(1, 3)) + in(5, uv(1, 2)) + in(5, uv(1, 1)) + in(5, uv(1, 2), uv(9, 1)), "5={1=3},{1=1},{1=2 ?4801}"},
			{in(5, uv(1, 1)) + in(5, uv(1, 1)) + in(5, uv(1, 1)) + in(5, uv(1, 1)), "5={1=1}"},
			// A key that isn't there is 0, or nothing.
			{in(5) + in(5), "5=0"},
			{in(5, uv(1, 0)) + in(5), "5=0"},
			{in(5) + in(5, uv(1, 0), in(2, "a")), `5={1=0 2="a"}`},
			{in(5, in(2, "a")) + in(5, uv(1, 1)) + in(5, in(2, "b")), `5={1=1},{2="b"}`},
			{in(9, in(1, "")) + in(9) + in(9, in(1, "a")), `9=0,{1="a"}`},
			{in(9, in(1, "a")) + in(9, in(1, "ab")) + in(9, in(1, "a"), in(2, "x")), `9={1="ab"},{1="a" 2="x"}`},
			{in(12, in(1, "\xff")) + in(12, in(1, "\xfe")) + in(12, in(1, "\xff"), in(2, "x")), `12={1="\xfe"},{1="\xff" 2="x"}`},
			// It is the worth that counts, not how it stands on the wire.
			{in(5, uv(1, 1)) + in(5, uv(1, 1<<32+1), in(2, "a")), `5={1=1 2="a"}`},
			{in(8, uv(1, 1)) + in(8, uv(1, 7), in(2, "a")) + in(8), `8={1=1 2="a"},0`},
			{in(5, uv(1, 1), uv(1, 2)) + in(5, uv(1, 2), in(2, "a")), `5={1=2 2="a"}`},
			{in(5, i64(1, 7)) + in(5, i64(1, 8)), "5={?090800000000000000}"},
			// A message's key, in a description that nobody checked.
			{in(11, in(1, uv(3, 5))) + in(11, in(1, uv(3, 6))) + in(11, in(1, uv(3, 5)), in(2, "a")), `11={1={3=6}},{1={3=5} 2="a"}`},
			{in(11, in(1)) + in(11), "11=0"},
			{in(11, in(1, uv(3, 5)), in(1, uv(4, 6))) + in(11, in(1, uv(4, 6), uv(3, 5)), in(2, "a")), `11={1={3=5 4=6} 2="a"}`},
			// Maps are each their own.
			{in(5, uv(1, 1)) + in(3, uv(1, 1)) + in(4, uv(1, 1)), "3={1=1} 4={1=1} 5={1=1}"},
			{in(5, uv(1, 1)) + uv(5, 1) + in(5, uv(1, 1)), "5={1=1} ?2801"},
		})
	}
	hold(t, p, "two.Maps", in(14, uv(1, 6))+in(14, uv(1, 7), in(2, "a"))+in(14, uv(1, 5)), `14={2="a" ?0807},{1=5}`)
	hold(t, p, "three.Maps", in(14, uv(1, 6))+in(14, uv(1, 7), in(2, "a"))+in(14, uv(1, 5)), `14={1=6},{1=7 2="a"},{1=5}`)
}

// P19.1: each type's keys.
func TestKeys(t *testing.T) {
	p := made(t, base()...)
	for _, x := range numbers() {
		for laid := range x.has {
			if x.kind == api.TEnum && laid != 5 {
				continue
			}
			one, other := in(x.kind, laidOn(1, x.wire, laid)), in(x.kind, laidOn(1, x.wire, laid), in(2, "a"))
			m, err := decode.Msg(p, "three.Maps", []byte(one+other))
			if err != api.OK || len(m.Slots) != 1 || len(m.Slots[0].Vals) != 1 || !strings.Contains(said(m), `2="a"`) {
				t.Errorf("type %d, %d: %s, %d", x.kind, laid, said(m), err)
			}
			back(t, p, "three.Maps", m)
		}
	}
}

// P19.1: which messages are entries, and what their keys are.
func TestEntries(t *testing.T) {
	m := func(name, options string, l ...api.Field) api.Message {
		return api.Message{Name: name, Fields: l, Options: []byte(options)}
	}
	value := field("value", 2, 0, api.TInt32, "")
	p := made(t, api.File{Name: "a", Messages: []api.Message{
		m("Plain", "", field("key", 1, 0, api.TInt32, ""), value),
		m("No", "\x38\x01\x38\x00", field("key", 1, 0, api.TInt32, ""), value),
		m("Broken", "\x38\x01\x38", field("key", 1, 0, api.TInt32, ""), value),
		m("Yes", "\x38\x00\x38\x05", field("key", 1, 0, api.TInt32, ""), value),
		m("Other", "\x38\x01", field("a", 1, 0, api.TInt32, ""), value, field("key", 3, 0, api.TInt32, "")),
		m("None", "\x38\x01", field("a", 1, 0, api.TInt32, ""), value),
		m("Many", "\x38\x01", field("key", 1, 3, api.TInt32, ""), value),
		m("Second", "\x38\x01", field("a", 1, 0, api.TInt32, ""), field("key", 1, 0, api.TInt32, ""), value),
		m("M", "", field("a", 1, 3, api.TMessage, ".Plain"), field("b", 2, 3, api.TMessage, ".No"), field("c", 3, 3, api.TMessage, ".Broken"), field("d", 4, 3, api.TMessage, ".Yes"),
			field("e", 5, 3, api.TMessage, ".Other"), field("f", 6, 3, api.TMessage, ".None"), field("g", 7, 3, api.TMessage, ".Many"), field("h", 8, 3, api.TMessage, ".Second"), field("i", 9, 0, api.TMessage, ".Yes")),
	}, Extends: []api.Field{extension("key", ".None", 100, 0, api.TInt32, "")}})
	holdAll(t, p, "M", []try{
		{in(1, uv(1, 5)) + in(1, uv(1, 5)), "1={1=5},{1=5}"},
		{in(2, uv(1, 5)) + in(2, uv(1, 5)), "2={1=5},{1=5}"},
		{in(3, uv(1, 5)) + in(3, uv(1, 5)), "3={1=5},{1=5}"},
		{in(4, uv(1, 5)) + in(4, uv(1, 5), uv(2, 1)), "4={1=5 2=1}"},
		{in(5, uv(1, 5), uv(3, 6)) + in(5, uv(1, 5), uv(3, 7)) + in(5, uv(1, 6), uv(3, 6)), "5={1=5 3=7},{1=6 3=6}"},
		{in(6, uv(1, 5), uv(100, 1)) + in(6, uv(1, 6), uv(100, 2)), "6={1=6 100=2}"}, // without a key all are alike
		{in(7, uv(1, 5), uv(1, 6)) + in(7, uv(1, 5)) + in(7, uv(1, 5), uv(1, 6), uv(2, 1)) + in(7, uv(1, 6), uv(1, 5)), "7={1=5},{1=5,6 2=1},{1=6,5}"},
		{in(7) + in(7, uv(1, 0)) + in(7, uv(1, 0), uv(1, 0)), "7={1=0},{1=0,0}"},
		{in(8, uv(1, 5)) + in(8, uv(1, 6)), "8={1=6}"},
		{in(9, uv(1, 5)) + in(9, uv(1, 6)), "9={1=6}"},
	})
}

// P19.1: maps in maps, and in messages that come twice.
func TestMapsWithin(t *testing.T) {
	l := []api.Message{{Name: "M", Fields: []api.Field{field("m", 1, 3, api.TMessage, ".Entry"), field("in", 2, 0, api.TMessage, ".M")}}, entry("Entry", api.TInt32, api.TMessage, ".M")}
	p := made(t, api.File{Name: "a", Messages: l})
	holdAll(t, p, "M", []try{
		{in(1, uv(1, 1), in(2, in(1, uv(1, 5)))) + in(1, uv(1, 2), in(2, in(1, uv(1, 5)), in(1, uv(1, 5)))), "1={1=1 2={1={1=5}}},{1=2 2={1={1=5}}}"},
		{in(1, uv(1, 1), in(2, in(1, uv(1, 5))), in(2, in(1, uv(1, 6)), in(1, uv(1, 5)))), "1={1=1 2={1={1=6},{1=5}}}"},
		{in(2, in(1, uv(1, 5)), in(1, uv(1, 6))) + in(2, in(1, uv(1, 5), in(2))), "2={1={1=6},{1=5 2=0}}"},
		{in(2, in(2, in(1, uv(1, 5)))) + in(2, in(2, in(1, uv(1, 5), uv(9, 1)))), "2={2={1={1=5 ?4801}}}"},
	})
}
