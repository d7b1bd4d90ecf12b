package decode_test

import (
	"math"
	"testing"

	"glossary/api"
	"glossary/decode"
	"glossary/encode"
	"glossary/value"
)

// worths are what each type has for numbers on the wire, and on which kind of field.
type worths struct {
	kind int
	wire int
	has  map[uint64]uint64
}

func same(l ...uint64) map[uint64]uint64 {
	m := map[uint64]uint64{}
	for _, n := range l {
		m[n] = n
	}
	return m
}

// cut is what a number on the wire is as one of 32 bits with sign.
func cut() map[uint64]uint64 {
	return map[uint64]uint64{0: 0, 1: 1, 5: 5, 300: 300, 1<<31 - 1: 1<<31 - 1, 1 << 31: minus(1 << 31), 1<<31 + 1: minus(1<<31 - 1), 1<<32 - 1: minus(1), 1 << 32: 0, 1<<32 + 5: 5, 1<<33 - 1: minus(1),
		1<<63 - 1: minus(1), 1 << 63: 0, minus(1<<31 + 1): 1<<31 - 1, minus(1 << 31): minus(1 << 31), minus(1 << 32): 0, minus(1): minus(1)}
}

func numbers() []worths {
	return []worths{
		{api.TDouble, api.WireI64, same(0, 1, 0x3ff0000000000000, 1<<63, minus(1))},
		{api.TFloat, api.WireI32, map[uint64]uint64{0: 0, 1: 1, 0x3f800000: 0x3f800000, 1 << 31: 1 << 31, 1<<32 - 1: 1<<32 - 1}},
		{api.TInt64, api.WireVarint, same(0, 1, 127, 128, 300, 1<<32, 1<<63-1, 1<<63, minus(1))},
		{api.TUint64, api.WireVarint, same(0, 1, 127, 128, 300, 1<<32, 1<<63-1, 1<<63, minus(1))},
		{api.TInt32, api.WireVarint, cut()},
		{api.TFixed64, api.WireI64, same(0, 1, 0x0102030405060708, 1<<63, minus(1))},
		{api.TFixed32, api.WireI32, same(0, 1, 0x01020304, 1<<31, 1<<32-1)},
		{api.TBool, api.WireVarint, map[uint64]uint64{0: 0, 1: 1, 2: 1, 128: 1, 1 << 32: 1, 1 << 63: 1, minus(1): 1}},
		{api.TUint32, api.WireVarint, map[uint64]uint64{0: 0, 1: 1, 300: 300, 1 << 31: 1 << 31, 1<<32 - 1: 1<<32 - 1, 1 << 32: 0, 1<<32 + 5: 5, 1 << 63: 0, minus(1): 1<<32 - 1, minus(1 << 31): 1 << 31}},
		{api.TEnum, api.WireVarint, cut()},
		{api.TSfixed32, api.WireI32, map[uint64]uint64{0: 0, 1: 1, 1<<31 - 1: 1<<31 - 1, 1 << 31: minus(1 << 31), 1<<32 - 2: minus(2), 1<<32 - 1: minus(1)}},
		{api.TSfixed64, api.WireI64, same(0, 1, 1<<63, minus(2), minus(1))},
		{api.TSint32, api.WireVarint, map[uint64]uint64{0: 0, 1: minus(1), 2: 1, 3: minus(2), 127: minus(64), 1<<32 - 2: 1<<31 - 1, 1<<32 - 1: minus(1 << 31),
			// Of numbers that are none of Zig's the lowest 32 bits of Zag are the worth.
			1 << 32: minus(1 << 31), 1<<32 + 1: 1<<31 - 1, 1<<33 - 1: 0, 1<<33 + 4: 2, minus(2): minus(1), minus(1): 0}},
		{api.TSint64, api.WireVarint, map[uint64]uint64{0: 0, 1: minus(1), 2: 1, 3: minus(2), 1<<32 - 1: minus(1 << 31), 1 << 32: 1 << 31, minus(2): 1<<63 - 1, minus(1): 1 << 63}},
	}
}

// P19.2: of each type what a number on the wire is; nothing but the kind and the number is asked.
func TestScalar(t *testing.T) {
	for _, x := range numbers() {
		for laid, want := range x.has {
			for _, r := range []api.Raw{{Kind: x.wire, N: laid}, {Num: 7, Kind: x.wire, N: laid, B: []byte("a")}, {Num: -1, Kind: x.wire, N: laid}} {
				got, is := decode.Scalar(x.kind, r)
				if got.N != want || len(got.B)+len(got.M.Slots)+len(got.M.Unknown) > 0 || !is {
					t.Errorf("type %d, %+v: %+v, %t, want %d", x.kind, r, got, is, int64(want))
				}
				if !value.Scalar(x.kind, got) {
					t.Errorf("type %d: %d is no worth", x.kind, got.N)
				}
			}
		}
	}
}

// P19.2: a number that four bytes don't hold, in a field that nobody read.
func TestScalarBeyond(t *testing.T) {
	for kind, want := range map[int]uint64{api.TFixed32: 1<<32 - 1, api.TFloat: 1<<32 - 1, api.TSfixed32: minus(1)} {
		if got, is := decode.Scalar(kind, api.Raw{Kind: api.WireI32, N: 1<<40 - 1}); got.N != want || !is {
			t.Errorf("type %d: %+v, %t", kind, got, is)
		}
	}
}

// P19.2: false of another kind, and of what isn't numeric; nothing beside it.
func TestScalarNone(t *testing.T) {
	none := func(kind int, r api.Raw) {
		t.Helper()
		if got, is := decode.Scalar(kind, r); is || said(api.Msg{Slots: []api.Slot{{Vals: []api.Val{got}}}}) != "0=0" {
			t.Errorf("type %d, %+v: %+v, %t", kind, r, got, is)
		}
	}
	kinds := []int{api.WireVarint, api.WireI64, api.WireLen, 3, 4, api.WireI32, 6, -1, 8, math.MaxInt, math.MinInt}
	for _, x := range numbers() {
		for _, wire := range kinds {
			if wire != x.wire {
				none(x.kind, api.Raw{Num: 1, Kind: wire, N: 1, B: []byte{1}})
			}
		}
	}
	for _, kind := range []int{api.TString, api.TBytes, api.TMessage, 0, 10, 19, -1, -5, 1<<32 + api.TInt32, math.MaxInt, math.MinInt} {
		for _, wire := range kinds {
			none(kind, api.Raw{Num: 1, Kind: wire, N: 1, B: []byte{1}})
			none(kind, api.Raw{Kind: wire})
		}
	}
}

// P19.2: a list in one is no worth.
func TestScalarList(t *testing.T) {
	for _, x := range numbers() {
		if got, is := decode.Scalar(x.kind, api.Raw{Num: 1, Kind: api.WireLen, B: make([]byte, 8)}); is || got.N != 0 {
			t.Errorf("type %d: %+v, %t", x.kind, got, is)
		}
	}
}

// P19.2, P18.2: the worth of the bytes of a worth is the worth.
func TestScalarBack(t *testing.T) {
	for _, kind := range types() {
		for _, number := range edges() {
			v := api.Val{N: number}
			if _, wire := encode.Scalar(kind, v); wire == api.WireLen || !value.Scalar(kind, v) {
				continue
			}
			b, wire := encode.Scalar(kind, v)
			if got, is := decode.Scalar(kind, api.Raw{Kind: wire, N: unlaid(wire, string(b))}); got.N != number || !is {
				t.Errorf("type %d, %d: %d, %t", kind, number, got.N, is)
			}
		}
	}
}
