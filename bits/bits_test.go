package bits_test

import (
	"bytes"
	"math"
	"strconv"
	"strings"
	"testing"

	"gauge/api"
	"gauge/bits"
)

// of tells the bits of digits, byte by byte: the tests' own way, apart from the package's.
func of(digits string) api.Bits {
	var b []byte
	for i := 0; i < len(digits); i += 8 {
		piece := (digits[i:min(i+8, len(digits))] + "0000000")[:8]
		u, err := strconv.ParseUint(piece, 2, 8)
		if err != nil {
			panic(err)
		}
		b = append(b, byte(u))
	}
	return api.Bits{B: b, N: len(digits)}
}

// digitsOf tells the n digits of a number.
func digitsOf(u uint64, n int) string {
	if n == 0 {
		return ""
	}
	s := strconv.FormatUint(u, 2)
	return strings.Repeat("0", n-len(s)) + s
}

// saying tells the digits of a number as it says itself.
func saying(u uint64) string {
	s := ""
	if u != 0 {
		s = strconv.FormatUint(u, 2)
	}
	return digitsOf(uint64(len(s)), 7) + s
}

func same(a, b api.Bits) bool {
	return a.N == b.N && bytes.Equal(a.B, b.B)
}

func none(x api.Bits) bool {
	return x.N == 0 && len(x.B) == 0
}

// wrong are bits that are not right.
func wrong() []api.Bits {
	return []api.Bits{
		{N: 1}, {N: -1}, {N: -7}, {N: -8}, {N: math.MaxInt}, {N: math.MinInt},
		{B: []byte{0}}, {B: []byte{0}, N: -1}, {B: []byte{0}, N: -8},
		{B: []byte{0}, N: 9}, {B: []byte{0, 0}, N: 8}, {B: []byte{0, 0}, N: 17},
		{B: []byte{1}, N: 7}, {B: []byte{0x40}, N: 1}, {B: []byte{0, 0x7f}, N: 9},
		{B: []byte{0, 0x01}, N: 15}, {B: []byte{0}, N: math.MaxInt}, {B: []byte{0}, N: math.MinInt},
	}
}

// sequence tells numbers that look mixed, and are the same each time.
func sequence() func() uint64 {
	u := uint64(88172645463325252)
	return func() uint64 {
		u ^= u << 13
		u ^= u >> 7
		u ^= u << 17
		return u
	}
}

// edges are numbers at the ends of lengths.
func edges() []uint64 {
	l := []uint64{0}
	for n := range 64 {
		top := uint64(1) << n
		l = append(l, top, top|1, top|(top-1))
	}
	return l
}

// P1.1

func TestRight(t *testing.T) {
	for _, x := range []api.Bits{
		{}, {B: []byte{}}, {B: []byte{0xff}, N: 8}, {B: []byte{0x80}, N: 1}, {B: []byte{0xfe}, N: 7},
		{B: []byte{0xff, 0x80}, N: 9}, {B: []byte{1, 0xff}, N: 16}, {B: []byte{0, 0, 0}, N: 17},
	} {
		if !bits.Right(x) {
			t.Errorf("%v is right", x)
		}
	}
	for _, x := range wrong() {
		if bits.Right(x) {
			t.Errorf("%v is not right", x)
		}
	}
}

func TestRightOfEachByte(t *testing.T) {
	for b := range 256 {
		for n := range 20 {
			text := digitsOf(uint64(b), 8)
			want := n >= 1 && n <= 8 && !strings.Contains(text[n:], "1")
			if bits.Right(api.Bits{B: []byte{byte(b)}, N: n}) != want {
				t.Errorf("byte %x, %d bits: not %v", b, n, want)
			}
			if bits.Right(api.Bits{B: []byte{0xff, byte(b)}, N: n}) != (n > 8 && n <= 16 && !strings.Contains(text[n-8:], "1")) {
				t.Errorf("bytes ff %x, %d bits", b, n)
			}
		}
	}
}

func TestPutExamples(t *testing.T) {
	x, e := bits.Put(api.Bits{}, 5, 4)
	if e != api.OK || !same(x, api.Bits{B: []byte{0x50}, N: 4}) {
		t.Error(x, e)
	}
	x, e = bits.Put(x, 3, 2)
	if e != api.OK || !same(x, api.Bits{B: []byte{0x5c}, N: 6}) {
		t.Error(x, e)
	}
	if y, e := bits.Put(api.Bits{}, 4, 2); e != api.ErrBig || !none(y) {
		t.Error(y, e)
	}
}

func TestPutAtEachPlace(t *testing.T) {
	ahead := strings.Repeat("1101001", 4)
	for at := range len(ahead) + 1 {
		for n := range 65 {
			for _, u := range []uint64{0, 1, 0xa5a5a5a5a5a5a5a5, math.MaxUint64} {
				if n < 64 {
					u &= 1<<n - 1
				}
				y, e := bits.Put(of(ahead[:at]), u, n)
				if e != api.OK || !same(y, of(ahead[:at]+digitsOf(u, n))) {
					t.Fatalf("%d in %d bits behind %d: %v %d", u, n, at, y, e)
				}
			}
		}
	}
}

func TestPutBig(t *testing.T) {
	for n := range 64 {
		for _, u := range []uint64{1 << n, 1<<n + 1, math.MaxUint64} {
			if u>>n == 0 {
				continue
			}
			if y, e := bits.Put(of("101"), u, n); e != api.ErrBig || !none(y) {
				t.Errorf("%d in %d bits: %v %d", u, n, y, e)
			}
		}
	}
}

func TestPutWrong(t *testing.T) {
	for _, n := range []int{-1, -64, 65, 128, math.MaxInt, math.MinInt} {
		for _, u := range []uint64{0, 1, math.MaxUint64} {
			if y, e := bits.Put(of("101"), u, n); e != api.ErrArg || !none(y) {
				t.Errorf("%d bits: %v %d", n, y, e)
			}
		}
	}
	for _, x := range wrong() {
		for _, u := range []uint64{0, 9} {
			if y, e := bits.Put(x, u, 3); e != api.ErrArg || !none(y) {
				t.Errorf("%v: %v %d", x, y, e)
			}
		}
	}
}

// P1.2

func TestGetExamples(t *testing.T) {
	x := api.Bits{B: []byte{0x5c}, N: 6}
	if u, e := bits.Get(x, 4, 2); u != 3 || e != api.OK {
		t.Error(u, e)
	}
	if u, e := bits.Get(x, 5, 2); u != 0 || e != api.ErrShort {
		t.Error(u, e)
	}
}

func TestGetAtEachPlace(t *testing.T) {
	text := strings.Repeat("110100111000101", 6)
	for size := range len(text) + 1 {
		x := of(text[:size])
		for at := range size + 1 {
			for n := range 65 {
				u, e := bits.Get(x, at, n)
				if at+n > size {
					if u != 0 || e != api.ErrShort {
						t.Fatalf("%d bits from %d of %d: %d %d", n, at, size, u, e)
					}
					continue
				}
				if e != api.OK || digitsOf(u, n) != text[at:at+n] {
					t.Fatalf("%d bits from %d of %d: %d %d", n, at, size, u, e)
				}
			}
		}
	}
}

func TestGetWrong(t *testing.T) {
	x := of("1011")
	for _, c := range []struct{ at, n int }{
		{-1, 1}, {5, 0}, {5, 1}, {0, -1}, {0, 65}, {4, -1}, {4, 65}, {-1, 99},
		{math.MaxInt, 1}, {math.MaxInt, 64}, {math.MinInt, 1}, {0, math.MaxInt}, {0, math.MinInt},
	} {
		if u, e := bits.Get(x, c.at, c.n); u != 0 || e != api.ErrArg {
			t.Errorf("%d bits from %d: %d %d", c.n, c.at, u, e)
		}
	}
	for _, y := range wrong() {
		for _, n := range []int{0, 1, 64} {
			if u, e := bits.Get(y, 0, n); u != 0 || e != api.ErrArg {
				t.Errorf("%v: %d %d", y, u, e)
			}
		}
	}
	if u, e := bits.Get(api.Bits{}, 0, 0); u != 0 || e != api.OK {
		t.Error(u, e)
	}
	if u, e := bits.Get(api.Bits{}, 0, 1); u != 0 || e != api.ErrShort {
		t.Error(u, e)
	}
}

// P1.3

func TestZig(t *testing.T) {
	for _, c := range []struct {
		n int
		u uint64
	}{
		{0, 0}, {-1, 1}, {1, 2}, {-2, 3}, {2, 4}, {-3, 5}, {1000000, 2000000}, {-1000000, 1999999},
		{1 << 60, 1 << 61}, {-1 << 60, 1<<61 - 1}, {1<<61 + 1, 1<<62 + 2},
		{math.MaxInt, math.MaxUint64 - 1}, {math.MinInt, math.MaxUint64}, {math.MinInt + 1, math.MaxUint64 - 2},
	} {
		if u := bits.Zig(c.n); u != c.u {
			t.Errorf("Zig of %d: %d", c.n, u)
		}
		if n := bits.Zag(c.u); n != c.n {
			t.Errorf("Zag of %d: %d", c.u, n)
		}
	}
}

func TestZigZag(t *testing.T) {
	next := sequence()
	for _, u := range edges() {
		if bits.Zig(bits.Zag(u)) != u || bits.Zag(bits.Zig(int(u))) != int(u) {
			t.Errorf("%d", u)
		}
	}
	for range 1000 {
		if u := next(); bits.Zig(bits.Zag(u)) != u || bits.Zag(bits.Zig(int(u))) != int(u) {
			t.Errorf("%d", u)
		}
	}
}

// P1.4

func TestPutNumExamples(t *testing.T) {
	x, e := bits.PutNum(api.Bits{}, 5)
	if e != api.OK || !same(x, api.Bits{B: []byte{0x07, 0x40}, N: 10}) {
		t.Error(x, e)
	}
	if u, next, e := bits.GetNum(x, 0); u != 5 || next != 10 || e != api.OK {
		t.Error(u, next, e)
	}
	x, e = bits.PutNum(api.Bits{}, 0)
	if e != api.OK || !same(x, api.Bits{B: []byte{0}, N: 7}) {
		t.Error(x, e)
	}
	if u, next, e := bits.GetNum(x, 0); u != 0 || next != 7 || e != api.OK {
		t.Error(u, next, e)
	}
}

func TestPutNumAtEachPlace(t *testing.T) {
	ahead := "1101001110001011"
	for at := range len(ahead) + 1 {
		for _, u := range edges() {
			x, e := bits.PutNum(of(ahead[:at]), u)
			if e != api.OK || !same(x, of(ahead[:at]+saying(u))) {
				t.Fatalf("%d behind %d: %v %d", u, at, x, e)
			}
			back, next, e := bits.GetNum(x, at)
			if back != u || next != x.N || e != api.OK {
				t.Fatalf("%d behind %d: %d %d %d", u, at, back, next, e)
			}
		}
	}
}

func TestPutNumWrong(t *testing.T) {
	for _, x := range wrong() {
		if y, e := bits.PutNum(x, 5); e != api.ErrArg || !none(y) {
			t.Errorf("%v: %v %d", x, y, e)
		}
	}
}

func TestGetNumWrong(t *testing.T) {
	for _, c := range []struct {
		digits string
		at     int
		want   api.Errno
	}{
		{"0000000", -1, api.ErrArg},
		{"0000000", 8, api.ErrArg},
		{"0000000", math.MaxInt, api.ErrArg},
		{"0000000", math.MinInt, api.ErrArg},
		{"", 1, api.ErrArg},
		{"", 0, api.ErrShort},
		{"000000", 0, api.ErrShort},
		{"111111", 0, api.ErrShort},
		{"0000000", 1, api.ErrShort},
		{"0000000", 7, api.ErrShort},
		{"1000001", 0, api.ErrCorrupt},
		{"1111111", 0, api.ErrCorrupt},
		{"1000001" + strings.Repeat("1", 65), 0, api.ErrCorrupt},
		{"1111111" + strings.Repeat("1", 127), 0, api.ErrCorrupt},
		{"0000001", 0, api.ErrShort},
		{"0000011" + "10", 0, api.ErrShort},
		{"0000011" + "00", 0, api.ErrShort},
		{"1000000" + strings.Repeat("1", 63), 0, api.ErrShort},
		{"0000001" + "0", 0, api.ErrCorrupt},
		{"0000011" + "011", 0, api.ErrCorrupt},
		{"0000011" + "000", 0, api.ErrCorrupt},
		{"1000000" + "0" + strings.Repeat("1", 63), 0, api.ErrCorrupt},
		{"1010" + "0000010" + "01", 4, api.ErrCorrupt},
	} {
		if u, next, e := bits.GetNum(of(c.digits), c.at); u != 0 || next != 0 || e != c.want {
			t.Errorf("%s from %d: %d %d %d", c.digits, c.at, u, next, e)
		}
	}
	for _, x := range wrong() {
		if u, next, e := bits.GetNum(x, 0); u != 0 || next != 0 || e != api.ErrArg {
			t.Errorf("%v: %d %d %d", x, u, next, e)
		}
	}
}

func TestGetNumEdges(t *testing.T) {
	for _, c := range []struct {
		digits string
		at     int
		u      uint64
		next   int
	}{
		{"0000000" + "111", 0, 0, 7},
		{"0000001" + "1" + "01", 0, 1, 8},
		{"1000000" + strings.Repeat("1", 64), 0, math.MaxUint64, 71},
		{"1000000" + "1" + strings.Repeat("0", 63) + "1", 0, 1 << 63, 71},
		{"111" + "0000000", 3, 0, 10},
	} {
		if u, next, e := bits.GetNum(of(c.digits), c.at); u != c.u || next != c.next || e != api.OK {
			t.Errorf("%s from %d: %d %d %d", c.digits, c.at, u, next, e)
		}
	}
}

// P1.5

func TestThereAndBack(t *testing.T) {
	next := sequence()
	for range 20 {
		var x api.Bits
		digits := ""
		type put struct {
			u    uint64
			n    int
			says bool
		}
		var puts []put
		for range 60 {
			p := put{n: int(next() % 65), says: next()%2 == 0}
			p.u = next() >> (64 - p.n)
			ahead := x
			var e api.Errno
			if p.says {
				x, e = bits.PutNum(ahead, p.u)
				digits += saying(p.u)
			} else {
				x, e = bits.Put(ahead, p.u, p.n)
				digits += digitsOf(p.u, p.n)
			}
			if e != api.OK || !bits.Right(x) || !same(x, of(digits)) {
				t.Fatalf("%v: %v %d", p, x, e)
			}
			puts = append(puts, p)
		}
		at := 0
		for _, p := range puts {
			var u uint64
			var e api.Errno
			if p.says {
				u, at, e = bits.GetNum(x, at)
			} else {
				u, e = bits.Get(x, at, p.n)
				at += p.n
			}
			if e != api.OK || u != p.u {
				t.Fatalf("%v: %d %d", p, u, e)
			}
		}
		if at != x.N {
			t.Fatalf("%d bits read of %d", at, x.N)
		}
	}
}

// P1.6

func TestOneForm(t *testing.T) {
	for size := range 15 {
		for w := range 1 << size {
			digits := digitsOf(uint64(w), size)
			x := of(digits)
			for at := range size + 1 {
				u, next, e := bits.GetNum(x, at)
				if e != api.OK {
					continue
				}
				y, e := bits.PutNum(of(digits[:at]), u)
				if e != api.OK || !same(y, of(digits[:next])) {
					t.Fatalf("%s from %d: %d %v", digits, at, u, y)
				}
			}
		}
	}
}

// Every row of bits is read as one number, or told to be none: what is read
// is what PutNum lays down, for all lengths that may be said.
func TestOneFormOfEachLength(t *testing.T) {
	for length := range 128 {
		for _, first := range []string{"0", "1"} {
			digits := digitsOf(uint64(length), 7) + strings.Repeat(first, 130)
			u, next, e := bits.GetNum(of(digits), 0)
			good := length == 0 || length <= 64 && first == "1"
			if good != (e == api.OK) {
				t.Fatalf("length %d, digits %s: %d", length, first, e)
			}
			if !good {
				if e != api.ErrCorrupt {
					t.Fatalf("length %d, digits %s: %d", length, first, e)
				}
				continue
			}
			if y, _ := bits.PutNum(api.Bits{}, u); !same(y, of(digits[:next])) {
				t.Fatalf("length %d: %d %v", length, u, y)
			}
		}
	}
}

// The rules that hold everywhere: what is handed in is not changed, and an
// answer is new memory.

func TestNothingShared(t *testing.T) {
	back := []byte{0xa0, 0x11, 0x22, 0x33, 0x44, 0x55, 0x66, 0x77, 0x88, 0x99, 0xaa, 0xbb}
	for _, n := range []int{0, 1, 4, 5, 8, 64} {
		room := bytes.Clone(back)
		x := api.Bits{B: room[:1], N: 4}
		y, e := bits.Put(x, 0, n)
		z, f := bits.PutNum(x, 1<<n-1)
		if e != api.OK || f != api.OK || x.N != 4 || !bytes.Equal(room, back) {
			t.Fatalf("%d bits: what was handed in is %x", n, room)
		}
		wantY, wantZ := bytes.Clone(y.B), bytes.Clone(z.B)
		room[0] ^= 0xff
		if !bytes.Equal(y.B, wantY) || !bytes.Equal(z.B, wantZ) {
			t.Fatalf("%d bits: an answer shares memory with its argument", n)
		}
		y.B[0] ^= 0xff
		if !bytes.Equal(z.B, wantZ) {
			t.Fatalf("%d bits: two answers share memory", n)
		}
	}
}

func TestReadingChangesNothing(t *testing.T) {
	back := []byte{0x07, 0x40, 0xff}
	room := bytes.Clone(back)
	x := api.Bits{B: room[:2], N: 10}
	bits.Right(x)
	bits.Get(x, 0, 10)
	bits.Get(x, 9, 10)
	bits.GetNum(x, 0)
	bits.GetNum(x, 1)
	if !bytes.Equal(room, back) {
		t.Fatalf("what was handed in is %x", room)
	}
}
