package varint_test

import (
	"bytes"
	"encoding/binary"
	"math"
	"math/big"
	"slices"
	"testing"

	"glossary/api"
	"glossary/varint"
)

// numbers answers the edges of every length in bytes and bits, and some between.
func numbers() []uint64 {
	l := []uint64{0, 1, 2, 150, 300, 123456789, 0x0123456789abcdef, math.MaxInt64, math.MaxUint64 - 1, math.MaxUint64}
	for k := range 64 {
		p := uint64(1) << k
		l = append(l, p-1, p, p+1)
	}
	return l
}

// signed answers the edges of the numbers with a sign.
func signed() []int64 {
	l := []int64{math.MinInt64, math.MinInt64 + 1, math.MaxInt64 - 1, math.MaxInt64}
	for k := range 63 {
		p := int64(1) << k
		l = append(l, p-1, p, p+1, -p-1, -p, -p+1)
	}
	return l
}

// spread answers s with more bytes behind its length, which no call may read.
func spread(s, behind string) []byte {
	b := []byte(s + behind)
	return b[:len(s)]
}

// P1.1: the bytes themselves.
func TestPutBytes(t *testing.T) {
	cases := []struct {
		n    uint64
		want string
	}{
		{0, "\x00"},
		{1, "\x01"},
		{127, "\x7f"},
		{128, "\x80\x01"},
		{150, "\x96\x01"},
		{300, "\xac\x02"},
		{1<<14 - 1, "\xff\x7f"},
		{1 << 14, "\x80\x80\x01"},
		{1 << 35, "\x80\x80\x80\x80\x80\x01"},
		{1<<63 - 1, "\xff\xff\xff\xff\xff\xff\xff\xff\x7f"},
		{1 << 63, "\x80\x80\x80\x80\x80\x80\x80\x80\x80\x01"},
		{math.MaxUint64, "\xff\xff\xff\xff\xff\xff\xff\xff\xff\x01"},
	}
	for _, c := range cases {
		if got := string(varint.Put(c.n)); got != c.want {
			t.Errorf("Put(%d) = %x, want %x", c.n, got, c.want)
		}
	}
}

// P1.1: seven bits a byte, the highest bit on all but the last, none too many.
func TestPutForm(t *testing.T) {
	for _, n := range numbers() {
		b := varint.Put(n)
		if len(b) == 0 || len(b) > 10 {
			t.Fatalf("Put(%d) has %d bytes", n, len(b))
		}
		last := len(b) - 1
		sum := new(big.Int)
		for i, x := range b {
			if more := x >= 0x80; more != (i < last) {
				t.Errorf("Put(%d) = %x: highest bit of byte %d", n, b, i)
			}
			seven := new(big.Int).Lsh(big.NewInt(int64(x&0x7f)), uint(7*i))
			sum.Add(sum, seven)
		}
		if sum.Cmp(new(big.Int).SetUint64(n)) != 0 {
			t.Errorf("Put(%d) = %x: means %s", n, b, sum)
		}
		if last > 0 && b[last] == 0 {
			t.Errorf("Put(%d) = %x: a byte too many", n, b)
		}
	}
}

// P2: no two answers share memory.
func TestPutFreshMemory(t *testing.T) {
	for _, n := range []uint64{0, 1, 300, math.MaxUint64} {
		first := varint.Put(n)
		want := string(first)
		second := varint.Put(n)
		for i := range first {
			first[i] ^= 0xff
		}
		if string(second) != want || string(varint.Put(n)) != want {
			t.Errorf("Put(%d): answers share memory", n)
		}
	}
}

// P1.2: numbers that are there, in their own length and in more.
func TestTakeNumbers(t *testing.T) {
	cases := []struct {
		b    string
		n    uint64
		size int
	}{
		{"\x00", 0, 1},
		{"\x01", 1, 1},
		{"\x7f", 127, 1},
		{"\x80\x01", 128, 2},
		{"\xac\x02", 300, 2},
		{"\x00\xff", 0, 1},
		{"\xac\x02\x80", 300, 2},
		{"\xff\xff\xff\xff\xff\xff\xff\xff\x7f", 1<<63 - 1, 9},
		{"\x80\x80\x80\x80\x80\x80\x80\x80\x80\x01", 1 << 63, 10},
		{"\xff\xff\xff\xff\xff\xff\xff\xff\xff\x01", math.MaxUint64, 10},
		// More bytes than the number needs.
		{"\x80\x00", 0, 2},
		{"\x81\x80\x00", 1, 3},
		{"\xac\x82\x80\x80\x00", 300, 5},
		{"\x80\x80\x80\x80\x80\x80\x80\x80\x80\x00", 0, 10},
		{"\xff\xff\xff\xff\xff\xff\xff\xff\xff\x00", 1<<63 - 1, 10},
		// A tenth byte that isn't the number's any more.
		{"\x05\x80\x80\x80\x80\x80\x80\x80\x80\xff", 5, 1},
		{"\x80\x80\x80\x80\x80\x80\x80\x80\x01\xff", 1 << 56, 9},
	}
	for _, c := range cases {
		n, size, e := varint.Take([]byte(c.b))
		if n != c.n || size != c.size || e != api.OK {
			t.Errorf("Take(%x) = %d, %d, %d, want %d, %d, OK", c.b, n, size, e, c.n, c.size)
		}
	}
}

// P1.2: bytes that are no number; P4: nothing else beside the error.
func TestTakeRefuses(t *testing.T) {
	const nine = "\x80\x80\x80\x80\x80\x80\x80\x80\x80"
	const nineFull = "\xff\xff\xff\xff\xff\xff\xff\xff\xff"
	cases := [][]byte{
		nil,
		{},
		[]byte("\x80"),
		[]byte("\xff"),
		[]byte("\xac"),
		[]byte("\xff\xff\xff"),
		[]byte(nine),
		[]byte(nineFull),
		[]byte(nine + "\x02"),
		[]byte(nineFull + "\x02"),
		[]byte(nineFull + "\x7f"),
		[]byte(nine + "\x80"),
		[]byte(nine + "\x81"),
		[]byte(nineFull + "\xff"),
		[]byte(nine + "\x80\x00"),
		[]byte(nine + "\x81\x00"),
		[]byte(nineFull + "\xff\x01"),
		[]byte(nine + nine + nine + "\x01"),
	}
	for _, b := range cases {
		n, size, e := varint.Take(b)
		if n != 0 || size != 0 || e != api.ErrVarint {
			t.Errorf("Take(%x) = %d, %d, %d, want 0, 0, ErrVarint", b, n, size, e)
		}
	}
}

// P1.2: which tenth bytes may be.
func TestTakeTenthByte(t *testing.T) {
	for x := range 256 {
		b := append(bytes.Repeat([]byte{0x80}, 9), byte(x))
		n, size, e := varint.Take(b)
		if x <= 1 {
			if n != uint64(x)<<63 || size != 10 || e != api.OK {
				t.Errorf("tenth %x: %d, %d, %d", x, n, size, e)
			}
		} else if n != 0 || size != 0 || e != api.ErrVarint {
			t.Errorf("tenth %x: %d, %d, %d, want 0, 0, ErrVarint", x, n, size, e)
		}
	}
}

// P1.2: every beginning of a number that is cut off is none.
func TestTakeCutOff(t *testing.T) {
	for _, n := range numbers() {
		b := varint.Put(n)
		for k := range b {
			// The rest stays behind the length: it may not be read.
			m, size, e := varint.Take(b[:k])
			if m != 0 || size != 0 || e != api.ErrVarint {
				t.Errorf("Take(%x) = %d, %d, %d, want 0, 0, ErrVarint", b[:k], m, size, e)
			}
		}
	}
}

// P2: what a call is given stays as it is.
func TestArgumentsStay(t *testing.T) {
	for _, s := range []string{"", "\x00", "\xac\x02", "\x80\x80", "\xff\xff\xff\xff\xff\xff\xff\xff\xff\xff\xff"} {
		b := spread(s, "\x11\x22\x33")
		varint.Take(b)
		varint.Unfixed(b)
		if string(b[:len(s)+3]) != s+"\x11\x22\x33" {
			t.Errorf("%x was changed", s)
		}
	}
}

// P1.3: lengths by their edges, and Put's own.
func TestSize(t *testing.T) {
	for k := 1; k <= 10; k++ {
		least, greatest := uint64(0), uint64(math.MaxUint64)
		if k > 1 {
			least = 1 << (7 * (k - 1))
		}
		if k < 10 {
			greatest = 1<<(7*k) - 1
		}
		if varint.Size(least) != k || varint.Size(greatest) != k {
			t.Errorf("Size(%d) = %d, Size(%d) = %d, want %d", least, varint.Size(least), greatest, varint.Size(greatest), k)
		}
	}
	for _, n := range numbers() {
		if varint.Size(n) != len(varint.Put(n)) {
			t.Errorf("Size(%d) = %d, Put has %d", n, varint.Size(n), len(varint.Put(n)))
		}
	}
}

// P1.4: the numbers themselves.
func TestZigZag(t *testing.T) {
	cases := []struct {
		n int64
		z uint64
	}{
		{0, 0},
		{-1, 1},
		{1, 2},
		{-2, 3},
		{2, 4},
		{-64, 127},
		{64, 128},
		{math.MaxInt32, math.MaxUint32 - 1},
		{math.MinInt32, math.MaxUint32},
		{math.MaxInt64, math.MaxUint64 - 1},
		{math.MinInt64, math.MaxUint64},
		{math.MinInt64 + 1, math.MaxUint64 - 2},
	}
	for _, c := range cases {
		if got := varint.Zig(c.n); got != c.z {
			t.Errorf("Zig(%d) = %d, want %d", c.n, got, c.z)
		}
		if got := varint.Zag(c.z); got != c.n {
			t.Errorf("Zag(%d) = %d, want %d", c.z, got, c.n)
		}
	}
}

// P1.4: the rule of Zig, by numbers without bounds.
func TestZigRule(t *testing.T) {
	for _, n := range signed() {
		want := new(big.Int).Mul(big.NewInt(n), big.NewInt(2))
		if n < 0 {
			want.Neg(want).Sub(want, big.NewInt(1))
		}
		if got := new(big.Int).SetUint64(varint.Zig(n)); got.Cmp(want) != 0 {
			t.Errorf("Zig(%d) = %s, want %s", n, got, want)
		}
	}
}

// P1.5: the bytes of each size, of those below 0 and above 8 too.
func TestFixed(t *testing.T) {
	const n = 0x8877665544332211
	const all = "\x11\x22\x33\x44\x55\x66\x77\x88"
	for _, size := range []int{math.MinInt, -9, -1, 0, 1, 2, 3, 4, 5, 6, 7, 8, 9, 10, 64, 99, math.MaxInt} {
		want := all[:min(max(size, 0), 8)]
		if got := string(varint.Fixed(n, size)); got != want {
			t.Errorf("Fixed(%x, %d) = %x, want %x", uint64(n), size, got, want)
		}
	}
	if got := varint.Fixed(0, 4); string(got) != "\x00\x00\x00\x00" {
		t.Errorf("Fixed(0, 4) = %x", got)
	}
	if got := varint.Fixed(0x0102, 3); string(got) != "\x02\x01\x00" {
		t.Errorf("Fixed(0x0102, 3) = %x", got)
	}
	if got := varint.Fixed(256, 1); string(got) != "\x00" {
		t.Errorf("Fixed(256, 1) = %x", got)
	}
}

// P1.5: n modulo 2^(8 size), by numbers without bounds.
func TestFixedModulo(t *testing.T) {
	for _, n := range numbers() {
		for size := range 9 {
			b := varint.Fixed(n, size)
			if len(b) != size {
				t.Fatalf("Fixed(%d, %d) has %d bytes", n, size, len(b))
			}
			slices.Reverse(b)
			modulus := new(big.Int).Lsh(big.NewInt(1), uint(8*size))
			want := new(big.Int).Mod(new(big.Int).SetUint64(n), modulus)
			if got := new(big.Int).SetBytes(b); got.Cmp(want) != 0 {
				t.Errorf("Fixed(%d, %d) means %s, want %s", n, size, got, want)
			}
		}
	}
}

// P2: no two answers share memory.
func TestFixedFreshMemory(t *testing.T) {
	first := varint.Fixed(math.MaxUint64, 8)
	second := varint.Fixed(math.MaxUint64, 8)
	clear(first)
	if string(second) != "\xff\xff\xff\xff\xff\xff\xff\xff" {
		t.Error("Fixed: answers share memory")
	}
}

// P1.5: numbers of no bytes, of few, of eight, of more.
func TestUnfixed(t *testing.T) {
	cases := []struct {
		b    []byte
		want uint64
	}{
		{nil, 0},
		{[]byte{}, 0},
		{[]byte{0}, 0},
		{[]byte{0xff}, 0xff},
		{[]byte{2, 1}, 0x0102},
		{[]byte{0, 0, 0, 0x80}, 1 << 31},
		{[]byte{1, 2, 3, 4, 5, 6, 7}, 0x07060504030201},
		{[]byte{0x11, 0x22, 0x33, 0x44, 0x55, 0x66, 0x77, 0x88}, 0x8877665544332211},
		{[]byte{0x11, 0x22, 0x33, 0x44, 0x55, 0x66, 0x77, 0x88, 0x99}, 0x8877665544332211},
		{append(bytes.Repeat([]byte{0xff}, 8), 1, 2, 3), math.MaxUint64},
		{append(make([]byte, 8), 0xff), 0},
		{spread("\x02\x01", "\xff\xff\xff"), 0x0102},
		{spread("", "\xff\xff\xff"), 0},
	}
	for _, c := range cases {
		if got := varint.Unfixed(c.b); got != c.want {
			t.Errorf("Unfixed(%x) = %x, want %x", c.b, got, c.want)
		}
	}
}

// P1.6: Take of Put, with any bytes behind.
func TestTakeOfPut(t *testing.T) {
	behind := []string{"", "\x00", "\x01", "x", "\x80", "\xff\xff\xff", "\xff\xff\xff\xff\xff\xff\xff\xff\xff\xff\xff\xff"}
	for _, n := range numbers() {
		for _, s := range behind {
			b := append(varint.Put(n), s...)
			m, size, e := varint.Take(b)
			if m != n || size != varint.Size(n) || e != api.OK {
				t.Errorf("Take(%x) = %d, %d, %d, want %d, %d, OK", b, m, size, e, n, varint.Size(n))
			}
		}
	}
}

// P1.6: Zag of Zig, and the other way round.
func TestZagOfZig(t *testing.T) {
	for _, n := range signed() {
		if got := varint.Zag(varint.Zig(n)); got != n {
			t.Errorf("Zag(Zig(%d)) = %d", n, got)
		}
	}
	for _, n := range numbers() {
		if got := varint.Zig(varint.Zag(n)); got != n {
			t.Errorf("Zig(Zag(%d)) = %d", n, got)
		}
	}
}

// P1.6: Unfixed of Fixed with size 8.
func TestUnfixedOfFixed(t *testing.T) {
	for _, n := range numbers() {
		if got := varint.Unfixed(varint.Fixed(n, 8)); got != n {
			t.Errorf("Unfixed(Fixed(%d, 8)) = %d", n, got)
		}
	}
}

// P1.2 and P1.5 against the library's reading of the same bytes.
func FuzzBytes(f *testing.F) {
	for _, n := range numbers() {
		f.Add(varint.Put(n))
		f.Add(varint.Fixed(n, 8))
	}
	f.Add(bytes.Repeat([]byte{0x80}, 11))
	f.Fuzz(func(t *testing.T, b []byte) {
		n, size, e := varint.Take(b)
		want, wantSize := binary.Uvarint(b)
		if wantSize <= 0 {
			if n != 0 || size != 0 || e != api.ErrVarint {
				t.Errorf("Take(%x) = %d, %d, %d, want 0, 0, ErrVarint", b, n, size, e)
			}
		} else if n != want || size != wantSize || e != api.OK {
			t.Errorf("Take(%x) = %d, %d, %d, want %d, %d, OK", b, n, size, e, want, wantSize)
		}
		var eight [8]byte
		copy(eight[:], b)
		if got := varint.Unfixed(b); got != binary.LittleEndian.Uint64(eight[:]) {
			t.Errorf("Unfixed(%x) = %x", b, got)
		}
	})
}

// P1.1, P1.3 and P1.6 against the library's writing of the same number.
func FuzzNumber(f *testing.F) {
	for _, n := range numbers() {
		f.Add(n)
	}
	f.Fuzz(func(t *testing.T, n uint64) {
		b := varint.Put(n)
		if !bytes.Equal(b, binary.AppendUvarint(nil, n)) || varint.Size(n) != len(b) {
			t.Errorf("Put(%d) = %x, Size %d", n, b, varint.Size(n))
		}
		if m, size, e := varint.Take(b); m != n || size != len(b) || e != api.OK {
			t.Errorf("Take(%x) = %d, %d, %d", b, m, size, e)
		}
		if varint.Zag(varint.Zig(int64(n))) != int64(n) || varint.Zig(varint.Zag(n)) != n {
			t.Errorf("Zig, Zag of %d", n)
		}
		if varint.Unfixed(varint.Fixed(n, 8)) != n {
			t.Errorf("Fixed, Unfixed of %d", n)
		}
	})
}
