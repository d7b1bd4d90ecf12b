package wire_test

import (
	"bytes"
	"encoding/binary"
	"math"
	"strings"
	"testing"

	"glossary/api"
	"glossary/wire"
)

// kinds are the four that there are.
var kinds = []int{api.WireVarint, api.WireI64, api.WireLen, api.WireI32}

// numbers answers numbers of fields at the edges of what may be and of a tag's length.
func numbers() []int {
	return []int{1, 2, 15, 16, 17, 2047, 2048, 1<<18 - 1, 1 << 18, 1<<25 - 1, 1 << 25, api.MaxField - 1, api.MaxField}
}

// worths answers numbers at the edges of lengths and of four and eight bytes.
func worths() []uint64 {
	return []uint64{0, 1, 127, 128, 150, 300, 1<<31 - 1, 1 << 31, math.MaxUint32, 1 << 32, 0x0123456789abcdef, 1<<63 - 1, 1 << 63, math.MaxUint64}
}

// texts answers bytes at the edges of a length's length.
func texts() [][]byte {
	return [][]byte{nil, {}, {0}, []byte("ab"), bytes.Repeat([]byte{0xff}, 127), bytes.Repeat([]byte{0x80}, 128), bytes.Repeat([]byte("abc"), 6000)}
}

// fields answers fields of every kind that have just what their kind has.
func fields() []api.Raw {
	var l []api.Raw
	for _, num := range numbers() {
		for _, n := range worths() {
			l = append(l,
				api.Raw{Num: num, Kind: api.WireVarint, N: n},
				api.Raw{Num: num, Kind: api.WireI64, N: n},
				api.Raw{Num: num, Kind: api.WireI32, N: n & math.MaxUint32})
		}
		for _, b := range texts() {
			l = append(l, api.Raw{Num: num, Kind: api.WireLen, B: b})
		}
	}
	return l
}

// laid answers a field's bytes by the library's means.
func laid(r api.Raw) []byte {
	b := binary.AppendUvarint(nil, uint64(8*r.Num+r.Kind))
	switch r.Kind {
	case api.WireVarint:
		return binary.AppendUvarint(b, r.N)
	case api.WireI64:
		return binary.LittleEndian.AppendUint64(b, r.N)
	case api.WireI32:
		return binary.LittleEndian.AppendUint32(b, uint32(r.N))
	}
	return append(binary.AppendUvarint(b, uint64(len(r.B))), r.B...)
}

// alike holds two fields against each other, whatever Same says.
func alike(a, b api.Raw) bool {
	return a.Num == b.Num && a.Kind == b.Kind && a.N == b.N && string(a.B) == string(b.B)
}

func empty(r api.Raw) bool {
	return alike(r, api.Raw{})
}

// P2.1: the bytes themselves.
func TestPutBytes(t *testing.T) {
	cases := []struct {
		r    api.Raw
		want string
	}{
		{api.Raw{Num: 1, Kind: api.WireVarint, N: 150}, "\x08\x96\x01"},
		{api.Raw{Num: 1, Kind: api.WireVarint}, "\x08\x00"},
		{api.Raw{Num: 15, Kind: api.WireVarint, N: 1}, "\x78\x01"},
		{api.Raw{Num: 16, Kind: api.WireVarint, N: 1}, "\x80\x01\x01"},
		{api.Raw{Num: 2, Kind: api.WireVarint, N: math.MaxUint64}, "\x10\xff\xff\xff\xff\xff\xff\xff\xff\xff\x01"},
		{api.Raw{Num: 1, Kind: api.WireI64, N: 0x0102030405060708}, "\x09\x08\x07\x06\x05\x04\x03\x02\x01"},
		{api.Raw{Num: 1, Kind: api.WireI64}, "\x09\x00\x00\x00\x00\x00\x00\x00\x00"},
		{api.Raw{Num: 1, Kind: api.WireLen, B: []byte("testing")}, "\x0a\x07testing"},
		{api.Raw{Num: 1, Kind: api.WireLen}, "\x0a\x00"},
		{api.Raw{Num: 1, Kind: api.WireLen, B: []byte{}}, "\x0a\x00"},
		{api.Raw{Num: 3, Kind: api.WireLen, B: bytes.Repeat([]byte("x"), 128)}, "\x1a\x80\x01" + strings.Repeat("x", 128)},
		{api.Raw{Num: 1, Kind: api.WireI32, N: 0x01020304}, "\x0d\x04\x03\x02\x01"},
		{api.Raw{Num: 1, Kind: api.WireI32}, "\x0d\x00\x00\x00\x00"},
		{api.Raw{Num: api.MaxField, Kind: api.WireVarint, N: 1}, "\xf8\xff\xff\xff\x0f\x01"},
		{api.Raw{Num: api.MaxField, Kind: api.WireI32, N: 1}, "\xfd\xff\xff\xff\x0f\x01\x00\x00\x00"},
	}
	for _, c := range cases {
		got, e := wire.Put(c.r)
		if e != api.OK || string(got) != c.want {
			t.Errorf("Put(%v) = %x, %d, want %x", c.r, got, e, c.want)
		}
	}
}

// P2.1: what the kind doesn't have isn't laid; four bytes hold a number's low ones.
func TestPutLeavesTheRest(t *testing.T) {
	for _, num := range numbers() {
		for _, kind := range kinds {
			for _, n := range worths() {
				for _, b := range texts() {
					r := api.Raw{Num: num, Kind: kind, N: n, B: b}
					got, e := wire.Put(r)
					if e != api.OK || string(got) != string(laid(r)) {
						t.Fatalf("Put(%d, %d, %d, %d bytes) = %x, %d", num, kind, n, len(b), got, e)
					}
				}
			}
		}
	}
}

// P2.1: numbers and kinds that may not be; P4: no bytes beside the error.
func TestPutRefuses(t *testing.T) {
	var cases []api.Raw
	for _, kind := range kinds {
		for _, num := range []int{0, -1, -1 << 29, api.MaxField + 1, 1 << 30, 1 << 32, 1<<32 + 1, 1<<61 + 1, math.MinInt, math.MaxInt} {
			cases = append(cases, api.Raw{Num: num, Kind: kind, N: 1, B: []byte("a")})
		}
	}
	for _, num := range []int{1, api.MaxField, 0} {
		for _, kind := range []int{-1, 3, 4, 6, 7, 8, 9, 10, 13, -8, -6, 1 << 32, 1<<32 + 2, math.MinInt, math.MaxInt} {
			cases = append(cases, api.Raw{Num: num, Kind: kind, N: 1, B: []byte("a")})
		}
	}
	cases = append(cases, api.Raw{})
	for _, r := range cases {
		if b, e := wire.Put(r); len(b) != 0 || e != api.ErrTag {
			t.Errorf("Put(%v) = %x, %d, want ErrTag", r, b, e)
		}
	}
}

// P2.2: fields that are there, in their own length and in more, with more behind them.
func TestTakeFields(t *testing.T) {
	cases := []struct {
		b    string
		want api.Raw
		size int
	}{
		{"\x08\x96\x01", api.Raw{Num: 1, Kind: api.WireVarint, N: 150}, 3},
		{"\x08\x96\x01\x08", api.Raw{Num: 1, Kind: api.WireVarint, N: 150}, 3},
		{"\x08\xff\xff\xff\xff\xff\xff\xff\xff\xff\x01", api.Raw{Num: 1, Kind: api.WireVarint, N: math.MaxUint64}, 11},
		{"\x12\x02abc", api.Raw{Num: 2, Kind: api.WireLen, B: []byte("ab")}, 4},
		{"\x12\x00", api.Raw{Num: 2, Kind: api.WireLen}, 2},
		{"\x12\x00\xff", api.Raw{Num: 2, Kind: api.WireLen}, 2},
		{"\x85\x01\x01\x00\x00\x80\xff", api.Raw{Num: 16, Kind: api.WireI32, N: 0x80000001}, 6},
		{"\x19\x02\x00\x00\x00\x00\x00\x00\x80\xff", api.Raw{Num: 3, Kind: api.WireI64, N: 1<<63 + 2}, 9},
		{"\xf8\xff\xff\xff\x0f\x01", api.Raw{Num: api.MaxField, Kind: api.WireVarint, N: 1}, 6},
		{"\xfd\xff\xff\xff\x0f\x01\x02\x03\x04", api.Raw{Num: api.MaxField, Kind: api.WireI32, N: 0x04030201}, 9},
		// More bytes than the numbers need.
		{"\x88\x00\x81\x00", api.Raw{Num: 1, Kind: api.WireVarint, N: 1}, 4},
		{"\x8a\x80\x80\x80\x80\x80\x80\x80\x80\x00\x82\x80\x00ab", api.Raw{Num: 1, Kind: api.WireLen, B: []byte("ab")}, 15},
	}
	for _, c := range cases {
		got, size, e := wire.Take([]byte(c.b))
		if !alike(got, c.want) || size != c.size || e != api.OK {
			t.Errorf("Take(%x) = %v, %d, %d, want %v, %d", c.b, got, size, e, c.want, c.size)
		}
	}
}

// P2.2: bytes with no field at their beginning, each with the first error that applies; P4: nothing beside it.
func TestTakeRefuses(t *testing.T) {
	const nine = "\x80\x80\x80\x80\x80\x80\x80\x80\x80"
	cases := []struct {
		b    string
		want api.Errno
	}{
		// The tag is no number.
		{"", api.ErrVarint},
		{"\x80", api.ErrVarint},
		{"\x88", api.ErrVarint},
		{nine, api.ErrVarint},
		{nine + "\x02", api.ErrVarint},
		// The tag is too great.
		{"\x80\x80\x80\x80\x10", api.ErrTag},
		{"\x80\x80\x80\x80\x10\x01", api.ErrTag},
		{"\x88\x80\x80\x80\x10\x01", api.ErrTag},
		{"\xf8\xff\xff\xff\x1f\x01", api.ErrTag},
		{"\x88\x80\x80\x80\x80\x80\x80\x80\x80\x01\x01", api.ErrTag},
		{"\xff\xff\xff\xff\xff\xff\xff\xff\xff\x01", api.ErrTag},
		// No field has the number nought.
		{"\x00", api.ErrTag},
		{"\x00\x01", api.ErrTag},
		{"\x01\x01\x02\x03\x04\x05\x06\x07\x08", api.ErrTag},
		{"\x02\x01a", api.ErrTag},
		{"\x05\x01\x02\x03\x04", api.ErrTag},
		{"\x80\x00\x01", api.ErrTag},
		// No such kind.
		{"\x0b", api.ErrTag},
		{"\x0c\x01", api.ErrTag},
		{"\x0e\x01\x01\x01\x01\x01\x01\x01\x01", api.ErrTag},
		{"\x0f\x01", api.ErrTag},
		{"\xff\xff\xff\xff\x0f\x01", api.ErrTag},
		// The worth is no number.
		{"\x08", api.ErrVarint},
		{"\x08\x80", api.ErrVarint},
		{"\x08" + nine + "\x02", api.ErrVarint},
		{"\x08" + nine + "\x80\x00", api.ErrVarint},
		{"\x0a", api.ErrVarint},
		{"\x0a\x80", api.ErrVarint},
		{"\x0a" + nine + "\x02", api.ErrVarint},
		// The worth is cut off.
		{"\x09", api.ErrWire},
		{"\x09\x01\x02\x03\x04\x05\x06\x07", api.ErrWire},
		{"\x0d", api.ErrWire},
		{"\x0d\x01\x02\x03", api.ErrWire},
		{"\x0a\x01", api.ErrWire},
		{"\x12\x03ab", api.ErrWire},
		{"\x0a\xff\xff\xff\xff\x07ab", api.ErrWire},
		{"\x0a\xff\xff\xff\xff\xff\xff\xff\xff\x7fab", api.ErrWire},
		{"\x0a\x80\x80\x80\x80\x80\x80\x80\x80\x80\x01ab", api.ErrWire},
		{"\x0a\xff\xff\xff\xff\xff\xff\xff\xff\xff\x01ab", api.ErrWire},
		{"\x0a\xfe\xff\xff\xff\xff\xff\xff\xff\xff\x01ab", api.ErrWire},
	}
	for _, c := range cases {
		r, size, e := wire.Take([]byte(c.b))
		if !empty(r) || size != 0 || e != c.want {
			t.Errorf("Take(%x) = %v, %d, %d, want nothing and %d", c.b, r, size, e, c.want)
		}
	}
	if r, size, e := wire.Take(nil); !empty(r) || size != 0 || e != api.ErrVarint {
		t.Errorf("Take(nil) = %v, %d, %d", r, size, e)
	}
}

// P2.2: which tags may be, of all that one byte and two bytes can be.
func TestTakeTags(t *testing.T) {
	const behind = "\x01\x02\x03\x04\x05\x06\x07\x08"
	for tag := range 1 << 14 {
		b := append(binary.AppendUvarint(nil, uint64(tag)), behind...)
		want := api.ErrTag
		if kind := tag % 8; tag/8 > 0 && (kind <= 2 || kind == 5) {
			want = api.OK
		}
		r, _, e := wire.Take(b)
		if e != want {
			t.Fatalf("tag %d: %d, want %d", tag, e, want)
		}
		if e == api.OK && (r.Num != tag/8 || r.Kind != tag%8) {
			t.Fatalf("tag %d: %v", tag, r)
		}
	}
}

// P2.2: every beginning of a field that is cut off is none, though the rest lies behind the length.
func TestTakeCutOff(t *testing.T) {
	for _, r := range fields() {
		if len(r.B) > 200 {
			continue
		}
		b := laid(r)
		tag := len(binary.AppendUvarint(nil, uint64(8*r.Num+r.Kind)))
		for k := range b {
			want := api.ErrVarint
			fixed := r.Kind == api.WireI32 || r.Kind == api.WireI64
			if k >= tag && (fixed || r.Kind == api.WireLen && k >= len(b)-len(r.B)) {
				want = api.ErrWire
			}
			got, size, e := wire.Take(b[:k])
			if !empty(got) || size != 0 || e != want {
				t.Fatalf("Take(%x) = %v, %d, %d, want %d", b[:k], got, size, e, want)
			}
		}
	}
}

// P2.3: Write is Put of each, one behind the other.
func TestWrite(t *testing.T) {
	l := fields()
	var want []byte
	for _, r := range l {
		want = append(want, laid(r)...)
	}
	if got, e := wire.Write(l); e != api.OK || !bytes.Equal(got, want) {
		t.Errorf("Write of %d fields: %d bytes, %d, want %d bytes", len(l), len(got), e, len(want))
	}
	for _, l := range [][]api.Raw{nil, {}} {
		if got, e := wire.Write(l); len(got) != 0 || e != api.OK {
			t.Errorf("Write of none = %x, %d", got, e)
		}
	}
}

// P2.3: one field that may not be, wherever it stands, leaves no bytes.
func TestWriteRefuses(t *testing.T) {
	good := api.Raw{Num: 1, Kind: api.WireLen, B: []byte("ab")}
	bad := []api.Raw{{}, {Num: 1, Kind: 3}, {Num: api.MaxField + 1}, {Num: -1, Kind: api.WireI32}}
	for _, r := range bad {
		for _, l := range [][]api.Raw{{r}, {r, good}, {good, r}, {good, r, good}, {good, r, r}} {
			if got, e := wire.Write(l); len(got) != 0 || e != api.ErrTag {
				t.Errorf("Write(%v) = %x, %d, want ErrTag", l, got, e)
			}
		}
	}
}

// P2.3: what lies behind a list's length isn't written.
func TestWriteLength(t *testing.T) {
	l := []api.Raw{{Num: 1, N: 5}, {Num: 2, N: 6}, {}}
	if got, e := wire.Write(l[:2]); e != api.OK || string(got) != "\x08\x05\x10\x06" {
		t.Errorf("Write = %x, %d", got, e)
	}
}

// P2.3: no bytes are no fields.
func TestReadNone(t *testing.T) {
	for _, b := range [][]byte{nil, {}} {
		if l, at, e := wire.Read(b); len(l) != 0 || at != 0 || e != api.OK {
			t.Errorf("Read of none = %v, %d, %d", l, at, e)
		}
	}
}

// P2.3: the place is that of the first field which is refused, not that of the byte; the list is none.
func TestReadPlace(t *testing.T) {
	heads := []string{"", "\x08\x01", "\x12\x02ab", "\x08\x96\x01\x12\x02ab\x0d\x01\x02\x03\x04\x09\x01\x02\x03\x04\x05\x06\x07\x08"}
	bad := []struct {
		b    string
		want api.Errno
	}{
		{"\x08", api.ErrVarint},
		{"\x80", api.ErrVarint},
		{"\x08\x80\x80", api.ErrVarint},
		{"\x00\x01", api.ErrTag},
		{"\x0b", api.ErrTag},
		{"\x12\x03ab", api.ErrWire},
		{"\x0d\x01", api.ErrWire},
		{"\x80\x80\x80\x80\x10\x01", api.ErrTag},
		{"\x0b\x08", api.ErrTag}, // what stands behind it is wrong too
		{"\x00\x01\x12\x03ab", api.ErrTag},
	}
	for _, head := range heads {
		for _, c := range bad {
			l, at, e := wire.Read([]byte(head + c.b))
			if len(l) != 0 || at != len(head) || e != c.want {
				t.Errorf("Read(%x) = %v, %d, %d, want %d, %d", head+c.b, l, at, e, len(head), c.want)
			}
		}
	}
}

// P2.3: bytes cut off between two fields are the fields ahead; cut off within one they are none.
func TestReadCutOff(t *testing.T) {
	l := []api.Raw{{Num: 1, N: 150}, {Num: 2, Kind: api.WireLen, B: []byte("ab")}, {Num: 16, Kind: api.WireI32, N: 1}, {Num: 3, Kind: api.WireI64, N: 2}}
	var whole []byte
	starts := map[int]int{}
	for i, r := range l {
		starts[len(whole)] = i
		whole = append(whole, laid(r)...)
	}
	starts[len(whole)] = len(l)
	last := 0
	for k := range len(whole) + 1 {
		got, at, e := wire.Read(whole[:k])
		if count, between := starts[k]; between {
			last = k
			if len(got) != count || at != 0 || e != api.OK {
				t.Errorf("Read of %d bytes = %v, %d, %d", k, got, at, e)
			}
		} else if len(got) != 0 || at != last || e == api.OK {
			t.Errorf("Read of %d bytes = %v, %d, %d, want the place %d", k, got, at, e, last)
		}
	}
}

// P2.4: every field of both counts, that which the kind has no use for too.
func TestSame(t *testing.T) {
	var l []api.Raw
	for _, num := range []int{0, 1, -1, math.MaxInt} {
		for _, kind := range []int{0, 1, 2, 5, 3, -1} {
			for _, n := range []uint64{0, 1, 1 << 32, math.MaxUint64} {
				for _, b := range []string{"", "a", "b", "ab", "a\x00"} {
					l = append(l, api.Raw{Num: num, Kind: kind, N: n, B: []byte(b)})
				}
			}
		}
	}
	for i, a := range l {
		for k, b := range l {
			b.B = bytes.Clone(b.B)
			if wire.Same(a, b) != (i == k) {
				t.Fatalf("Same(%v, %v) = %t", a, b, i != k)
			}
		}
	}
}

// P2.4, P3: no bytes are no bytes, and what lies behind a length isn't held against anything.
func TestSameBytes(t *testing.T) {
	if !wire.Same(api.Raw{Num: 1, Kind: 2}, api.Raw{Num: 1, Kind: 2, B: []byte{}}) || !wire.Same(api.Raw{B: []byte{}}, api.Raw{}) {
		t.Error("nil and empty bytes differ")
	}
	if !wire.Same(api.Raw{B: []byte("abc")[:2]}, api.Raw{B: []byte("abd")[:2]}) {
		t.Error("what lies behind the length counts")
	}
	if wire.Same(api.Raw{B: []byte("ab")}, api.Raw{B: []byte("ab")[:1]}) {
		t.Error("a beginning is the whole")
	}
}

// P2.5: Read of Write is the list.
func TestBack(t *testing.T) {
	l := fields()
	b, e := wire.Write(l)
	if e != api.OK {
		t.Fatal(e)
	}
	got, at, e := wire.Read(b)
	if e != api.OK || at != 0 || len(got) != len(l) {
		t.Fatalf("Read: %d fields of %d, %d, %d", len(got), len(l), at, e)
	}
	for i := range l {
		if !alike(got[i], l[i]) || !wire.Same(got[i], l[i]) {
			t.Errorf("field %d: %v, want %v", i, got[i], l[i])
		}
	}
}

// P2.5: nothing comes back but what the kind has.
func TestBackDropsTheRest(t *testing.T) {
	const n, low = 0x1122334455667788, 0x55667788
	var l []api.Raw
	for _, kind := range kinds {
		l = append(l, api.Raw{Num: 7, Kind: kind, N: n, B: []byte("ab")})
	}
	want := []api.Raw{
		{Num: 7, Kind: api.WireVarint, N: n},
		{Num: 7, Kind: api.WireI64, N: n},
		{Num: 7, Kind: api.WireLen, B: []byte("ab")},
		{Num: 7, Kind: api.WireI32, N: low},
	}
	b, _ := wire.Write(l)
	got, _, e := wire.Read(b)
	if e != api.OK || len(got) != len(want) {
		t.Fatal(got, e)
	}
	for i := range want {
		if !alike(got[i], want[i]) {
			t.Errorf("field %d: %v, want %v", i, got[i], want[i])
		}
	}
}

func flip(b []byte) {
	for i := range b {
		b[i] ^= 0xff
	}
}

// P2: Put and Write answer memory of their own.
func TestPutMemory(t *testing.T) {
	r := api.Raw{Num: 1, Kind: api.WireLen, B: []byte("abc")}
	first, _ := wire.Put(r)
	second, _ := wire.Write([]api.Raw{r})
	flip(first)
	if string(r.B) != "abc" || string(second) != "\x0a\x03abc" {
		t.Errorf("Put shares memory: %x %x", r.B, second)
	}
	flip(second)
	if string(r.B) != "abc" {
		t.Errorf("Write shares memory: %x", r.B)
	}
}

// P2: Take and Read answer memory of their own, each field's bytes apart from the others', and leave theirs alone.
func TestReadMemory(t *testing.T) {
	const whole = "\x0a\x03abc\x0a\x02de\x0a\x00"
	b := []byte(whole)
	taken, _, _ := wire.Take(b)
	l, _, _ := wire.Read(b)
	again, _, _ := wire.Read(b)
	if string(b) != whole {
		t.Fatalf("the argument was changed: %x", b)
	}
	flip(b)
	if string(taken.B) != "abc" || string(l[0].B) != "abc" || string(l[1].B) != "de" {
		t.Fatal("answers share memory with the argument")
	}
	flip(taken.B)
	_ = append(l[0].B, 'z')
	_ = append(l[2].B, 'z')
	flip(l[0].B)
	if string(l[1].B) != "de" || string(again[0].B) != "abc" || string(again[1].B) != "de" {
		t.Error("answers share memory")
	}
}

// P2: appending to an answer's bytes leaves what lies behind the argument's length.
func TestTakeAppend(t *testing.T) {
	b := []byte("\x0a\x01abcd")
	r, _, _ := wire.Take(b[:3])
	_ = append(r.B, 'z')
	if string(b) != "\x0a\x01abcd" {
		t.Errorf("bytes behind the field were written: %x", b)
	}
}

// FuzzRead: any bytes are fields one behind the other, which written and read again are the same, or have a first place that is none.
func FuzzRead(f *testing.F) {
	for _, s := range []string{"", "\x08\x96\x01", "\x12\x02ab\x85\x01\x01\x00\x00\x00", "\x19\x02\x00\x00\x00\x00\x00\x00\x00\x08", "\x0a\xff\xff\xff\xff\xff\xff\xff\xff\xff\x01", "\x80\x80\x80\x80\x10\x01"} {
		f.Add([]byte(s))
	}
	f.Fuzz(func(t *testing.T, b []byte) {
		before := string(b)
		l, at, e := wire.Read(b)
		if string(b) != before {
			t.Fatal("the argument was changed")
		}
		if e != api.OK {
			if _, _, first := wire.Take(b[at:]); len(l) != 0 || first != e {
				t.Fatalf("%v, %d, %d, but Take there says %d", l, at, e, first)
			}
			if _, _, ahead := wire.Read(b[:at]); ahead != api.OK {
				t.Fatalf("the bytes ahead of %d: %d", at, ahead)
			}
			return
		}
		out, e := wire.Write(l)
		if e != api.OK || len(out) > len(b) {
			t.Fatalf("Write: %d bytes of %d, %d", len(out), len(b), e)
		}
		again, _, e := wire.Read(out)
		if e != api.OK || len(again) != len(l) {
			t.Fatalf("Read again: %v, %d", again, e)
		}
		for i := range l {
			if !wire.Same(l[i], again[i]) {
				t.Fatalf("field %d: %v, then %v", i, l[i], again[i])
			}
		}
	})
}

// FuzzPut: any field is refused, or its bytes are those of the library's means and Take takes them whole.
func FuzzPut(f *testing.F) {
	f.Add(1, api.WireVarint, uint64(150), []byte(nil))
	f.Add(2, api.WireLen, uint64(0), []byte("ab"))
	f.Add(api.MaxField+1, 3, uint64(math.MaxUint64), []byte{})
	f.Fuzz(func(t *testing.T, num, kind int, n uint64, data []byte) {
		r := api.Raw{Num: num, Kind: kind, N: n, B: data}
		b, e := wire.Put(r)
		if num < 1 || num > api.MaxField || kind != 0 && kind != 1 && kind != 2 && kind != 5 {
			if len(b) != 0 || e != api.ErrTag {
				t.Fatalf("Put(%v) = %x, %d", r, b, e)
			}
			return
		}
		if e != api.OK || !bytes.Equal(b, laid(r)) {
			t.Fatalf("Put(%v) = %x, %d", r, b, e)
		}
		got, size, e := wire.Take(b)
		if e != api.OK || size != len(b) || got.Num != num || got.Kind != kind {
			t.Fatalf("Take(%x) = %v, %d, %d", b, got, size, e)
		}
	})
}
