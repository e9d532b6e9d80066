package frame_test

import (
	"bytes"
	"fmt"
	"hash/crc32"
	"math"
	"math/big"
	"strings"
	"testing"

	"gauge/api"
	"gauge/frame"
)

// digitsOf tells a number as bytes: the tests' own way, apart from the package's.
func digitsOf(n int) []byte {
	var b []byte
	rest := big.NewInt(int64(n))
	digit := new(big.Int)
	for {
		rest.DivMod(rest, big.NewInt(128), digit)
		if rest.Sign() == 0 {
			return append(b, byte(digit.Int64()))
		}
		b = append(b, byte(digit.Int64()+128))
	}
}

// textOf tells a text as bytes.
func textOf(s string) []byte {
	return append(digitsOf(len(s)), s...)
}

// frameOf tells a frame: its sum is the library's.
func frameOf(x []byte) []byte {
	f := append([]byte{byte(len(x) / 256), byte(len(x) % 256)}, x...)
	sum := crc32.Checksum(f, crc32.MakeTable(crc32.Castagnoli))
	return append(f, byte(sum), byte(sum>>8), byte(sum>>16), byte(sum>>24))
}

// sequence tells numbers that look mixed, and are the same each time.
func sequence() func() uint64 {
	u := uint64(88172645463325252)
	return func() uint64 {
		u ^= u << 13
		u ^= u >> 7
		u ^= u << 17
		return u
	}
}

// mixed tells n bytes that look mixed.
func mixed(next func() uint64, n int) []byte {
	b := make([]byte, n)
	for i := range b {
		b[i] = byte(next() >> 20)
	}
	return b
}

// edges are numbers at the ends of lengths.
func edges() []int {
	l := []int{0, 300, 65535, 65536, 1000000, math.MaxInt, math.MaxInt - 1}
	for n := range 63 {
		top := 1 << n
		l = append(l, top, top|1, top|(top-1))
	}
	return l
}

// wholes are rows of bytes of many lengths.
func wholes() [][]byte {
	next := sequence()
	l := [][]byte{nil, {0}, {0, 0, 0, 0}, {255}, []byte("a"), bytes.Repeat([]byte{255}, 300)}
	for _, n := range []int{1, 2, 5, 6, 7, 127, 128, 254, 255, 256, 257, 511, 512, 4000} {
		l = append(l, mixed(next, n))
	}
	return l
}

// P2.1

func TestUintExamples(t *testing.T) {
	b, e := frame.PutUint(nil, 300)
	if e != api.OK || string(b) != "\xac\x02" {
		t.Errorf("%x %d", b, e)
	}
	if n, next, e := frame.GetUint([]byte{0x80, 0}, 0); n != 0 || next != 0 || e != api.ErrCorrupt {
		t.Error(n, next, e)
	}
	if n, next, e := frame.GetUint([]byte{0x80}, 0); n != 0 || next != 0 || e != api.ErrShort {
		t.Error(n, next, e)
	}
}

func TestPutUint(t *testing.T) {
	for _, c := range []struct {
		n    int
		want string
	}{
		{0, "\x00"}, {1, "\x01"}, {127, "\x7f"}, {128, "\x80\x01"}, {129, "\x81\x01"}, {255, "\xff\x01"},
		{256, "\x80\x02"}, {16383, "\xff\x7f"}, {16384, "\x80\x80\x01"}, {65535, "\xff\xff\x03"},
		{1 << 56, "\x80\x80\x80\x80\x80\x80\x80\x80\x01"},
		{1<<56 - 1, "\xff\xff\xff\xff\xff\xff\xff\x7f"},
		{math.MaxInt, "\xff\xff\xff\xff\xff\xff\xff\xff\x7f"},
	} {
		for _, ahead := range []string{"", "\x00", "\x80", "ahead"} {
			if b, e := frame.PutUint([]byte(ahead), c.n); e != api.OK || string(b) != ahead+c.want {
				t.Errorf("%d behind %q: %x %d", c.n, ahead, b, e)
			}
		}
	}
	for _, n := range edges() {
		if b, e := frame.PutUint(nil, n); e != api.OK || !bytes.Equal(b, digitsOf(n)) {
			t.Errorf("%d: %x %d", n, b, e)
		}
	}
}

func TestPutUintWrong(t *testing.T) {
	for _, n := range []int{-1, -2, -128, -300, math.MinInt, math.MinInt + 1} {
		for _, b := range [][]byte{nil, {}, {1, 2}} {
			if c, e := frame.PutUint(b, n); e != api.ErrArg || len(c) != 0 {
				t.Errorf("%d: %x %d", n, c, e)
			}
		}
	}
}

func TestGetUint(t *testing.T) {
	for _, n := range edges() {
		for _, ahead := range []string{"", "\x00", "\x80", "\xff\xff"} {
			for _, behind := range []string{"", "\x00", "\x80\x80", "\xff"} {
				b := append([]byte(ahead), digitsOf(n)...)
				end := len(b)
				b = append(b, behind...)
				if u, next, e := frame.GetUint(b, len(ahead)); u != n || next != end || e != api.OK {
					t.Errorf("%d: %d %d %d", n, u, next, e)
				}
			}
		}
	}
}

func TestGetUintWrong(t *testing.T) {
	high := func(n int) string { return strings.Repeat("\x80", n) }
	for _, c := range []struct {
		b    string
		at   int
		want api.Errno
	}{
		{"", -1, api.ErrArg}, {"", 1, api.ErrArg}, {"\x01", -1, api.ErrArg}, {"\x01", 2, api.ErrArg},
		{"\x80", -1, api.ErrArg}, {"\x80", 2, api.ErrArg}, {"\x01", math.MinInt, api.ErrArg}, {"\x01", math.MaxInt, api.ErrArg},
		{"", 0, api.ErrShort}, {"\x01", 1, api.ErrShort}, {"\xff", 0, api.ErrShort}, {"\x01\x81", 1, api.ErrShort},
		{high(8), 0, api.ErrShort}, {strings.Repeat("\xff", 8), 0, api.ErrShort}, {high(9), 1, api.ErrShort},
		{high(1) + "\x00", 0, api.ErrCorrupt}, {"\xff\x00", 0, api.ErrCorrupt}, {high(7) + "\x00", 0, api.ErrCorrupt},
		{high(8) + "\x00", 0, api.ErrCorrupt}, {"\x01" + high(1) + "\x00\x01", 1, api.ErrCorrupt},
		{high(9), 0, api.ErrCorrupt}, {high(8) + "\xff", 0, api.ErrCorrupt}, {high(9) + "\x00", 0, api.ErrCorrupt},
		{high(9) + "\x01", 0, api.ErrCorrupt}, {strings.Repeat("\xff", 9), 0, api.ErrCorrupt},
		{strings.Repeat("\xff", 9) + "\x01", 0, api.ErrCorrupt}, {high(40), 0, api.ErrCorrupt}, {"\x01" + high(9), 1, api.ErrCorrupt},
	} {
		if n, next, e := frame.GetUint([]byte(c.b), c.at); n != 0 || next != 0 || e != c.want {
			t.Errorf("%x from %d: %d %d %d", c.b, c.at, n, next, e)
		}
	}
}

// P2.2

func TestTextExamples(t *testing.T) {
	b, e := frame.PutText(nil, "ab")
	if e != api.OK || string(b) != "\x02ab" {
		t.Errorf("%x %d", b, e)
	}
	if s, next, e := frame.GetText(b, 0); s != "ab" || next != 3 || e != api.OK {
		t.Error(s, next, e)
	}
}

// texts are texts of many lengths, the longest among them.
func texts() []string {
	l := []string{"", "a", "ab", "\x00", "\x80\xff", "ü", "\n"}
	for _, n := range []int{126, 127, 128, 129, 16383, 16384, 65534, 65535} {
		l = append(l, strings.Repeat("x", n))
	}
	return l
}

func TestTexts(t *testing.T) {
	for _, s := range texts() {
		for _, ahead := range []string{"", "\x80", "ahead"} {
			b, e := frame.PutText([]byte(ahead), s)
			if e != api.OK || string(b) != ahead+string(textOf(s)) {
				t.Errorf("%d bytes behind %q: %d", len(s), ahead, e)
			}
			b = append(b, "\xffbehind"...)
			end := len(ahead) + len(textOf(s))
			if back, next, e := frame.GetText(b, len(ahead)); back != s || next != end || e != api.OK {
				t.Errorf("%d bytes behind %q: %d %d", len(s), ahead, next, e)
			}
		}
	}
}

func TestPutTextWrong(t *testing.T) {
	for _, n := range []int{65536, 65537, 70000, 1 << 20} {
		if b, e := frame.PutText([]byte("ab"), strings.Repeat("x", n)); e != api.ErrBig || len(b) != 0 {
			t.Errorf("%d bytes: %d %d", n, len(b), e)
		}
	}
}

func TestGetTextWrong(t *testing.T) {
	for _, c := range []struct {
		b    string
		at   int
		want api.Errno
	}{
		{"", -1, api.ErrArg}, {"", 1, api.ErrArg}, {"\x01a", 3, api.ErrArg}, {"\x01a", -1, api.ErrArg},
		{"\x01a", math.MaxInt, api.ErrArg}, {"\x01a", math.MinInt, api.ErrArg},
		{"", 0, api.ErrShort}, {"\x80", 0, api.ErrShort}, {"\x01a", 2, api.ErrShort},
		{"\x80\x00", 0, api.ErrCorrupt}, {strings.Repeat("\xff", 9), 0, api.ErrCorrupt},
		{"\x80\x80\x04", 0, api.ErrBig}, {"\x81\x80\x04", 0, api.ErrBig},
		{"\x80\x80\x04" + strings.Repeat("a", 65536), 0, api.ErrBig},
		{string(digitsOf(math.MaxInt)), 0, api.ErrBig}, {string(digitsOf(math.MaxInt)) + "a", 0, api.ErrBig},
		{"\x01", 0, api.ErrShort}, {"\x02a", 0, api.ErrShort}, {"a\x02a", 1, api.ErrShort},
		{"\xff\xff\x03", 0, api.ErrShort}, {"\xff\xff\x03" + strings.Repeat("a", 65534), 0, api.ErrShort},
		{"abcdefgh\x09", 8, api.ErrShort},
	} {
		if s, next, e := frame.GetText([]byte(c.b), c.at); s != "" || next != 0 || e != c.want {
			t.Errorf("%.20x of %d from %d: %d %d", c.b, len(c.b), c.at, next, e)
		}
	}
}

// P2.3

func TestSumExamples(t *testing.T) {
	if s := frame.Sum([]byte("123456789")); s != 0xe3069283 {
		t.Errorf("%x", s)
	}
	if frame.Sum(nil) != 0 || frame.Sum([]byte{}) != 0 {
		t.Error("of nothing")
	}
}

func TestSum(t *testing.T) {
	table := crc32.MakeTable(crc32.Castagnoli)
	for b := range 256 {
		for _, x := range [][]byte{{byte(b)}, {0, byte(b)}, {byte(b), 255}} {
			if frame.Sum(x) != crc32.Checksum(x, table) {
				t.Errorf("%x: %x", x, frame.Sum(x))
			}
		}
	}
	for _, x := range wholes() {
		if frame.Sum(x) != crc32.Checksum(x, table) {
			t.Errorf("%x: %x", x, frame.Sum(x))
		}
	}
}

// P2.4

func TestFrameExamples(t *testing.T) {
	f, e := frame.Put(nil, []byte("a"))
	if e != api.OK || len(f) != 7 || string(f[:3]) != "\x00\x01a" {
		t.Errorf("%x %d", f, e)
	}
}

func TestFrames(t *testing.T) {
	for _, x := range append(wholes(), make([]byte, 65534), make([]byte, 65535)) {
		for _, ahead := range []string{"", "\x00", "\x00\x01ahead"} {
			f, e := frame.Put([]byte(ahead), x)
			if e != api.OK || string(f) != ahead+string(frameOf(x)) {
				t.Fatalf("%d bytes behind %q: %d", len(x), ahead, e)
			}
			f = append(f, "\xffbehind"...)
			end := len(ahead) + len(x) + 6
			if y, next, e := frame.Get(f, len(ahead)); !bytes.Equal(y, x) || next != end || e != api.OK {
				t.Fatalf("%d bytes behind %q: %d %d", len(x), ahead, next, e)
			}
		}
	}
}

func TestPutWrong(t *testing.T) {
	for _, n := range []int{65536, 65537, 131072} {
		if f, e := frame.Put([]byte("ab"), make([]byte, n)); e != api.ErrBig || len(f) != 0 {
			t.Errorf("%d bytes: %d %d", n, len(f), e)
		}
	}
	if f, e := frame.Put(make([]byte, 70000), []byte("a")); e != api.OK || len(f) != 70007 {
		t.Errorf("behind 70000 bytes: %d %d", len(f), e)
	}
}

func TestGetWrong(t *testing.T) {
	f := string(frameOf([]byte("abc")))
	empty := string(frameOf(nil))
	turned := f[:len(f)-1] + string([]byte{f[len(f)-1] ^ 1})
	for _, c := range []struct {
		b    string
		at   int
		want api.Errno
	}{
		{"", -1, api.ErrArg}, {"", 1, api.ErrArg}, {f, -1, api.ErrArg}, {f, len(f) + 1, api.ErrArg},
		{f, math.MaxInt, api.ErrArg}, {f, math.MinInt, api.ErrArg},
		{"", 0, api.ErrShort}, {f, len(f), api.ErrShort}, {"\x00\x00", 0, api.ErrShort},
		{empty[:5], 0, api.ErrShort}, {f[:5], 0, api.ErrShort}, {"\x00\x00\x00\x00\x00", 0, api.ErrShort},
		{f + empty[:5], len(f), api.ErrShort},
		{f[:8], 0, api.ErrShort}, {"\xff\xff\x00\x00\x00\x00", 0, api.ErrShort}, {"\x01\x00" + f[2:], 0, api.ErrShort},
		{"\x00\x04" + f[2:], 0, api.ErrShort},
		{"\x00\x00\x00\x00\x00\x00", 0, api.ErrCorrupt}, {"\x00\x02" + f[2:], 0, api.ErrCorrupt},
		{turned, 0, api.ErrCorrupt}, {f, 3, api.ErrShort}, {f + f, 3, api.ErrShort},
		{string(frameOf([]byte{0, 0, 0, 0, 0, 0, 0})), 2, api.ErrCorrupt},
	} {
		if x, next, e := frame.Get([]byte(c.b), c.at); len(x) != 0 || next != 0 || e != c.want {
			t.Errorf("%x from %d: %x %d %d", c.b, c.at, x, next, e)
		}
	}
}

// A frame is read from its own place on: what stands ahead is no part of its sum.
func TestGetBetween(t *testing.T) {
	b := append([]byte("zz"), frameOf([]byte("abc"))...)
	end := len(b)
	b = append(b, frameOf(nil)...)
	if x, next, e := frame.Get(b, 2); string(x) != "abc" || next != end || e != api.OK {
		t.Errorf("%x %d %d", x, next, e)
	}
	if x, next, e := frame.Get(b, end); len(x) != 0 || next != end+6 || e != api.OK {
		t.Errorf("%x %d %d", x, next, e)
	}
}

// P2.5

func sameRows(a, b [][]byte) bool {
	if len(a) != len(b) {
		return false
	}
	for i := range a {
		if !bytes.Equal(a[i], b[i]) {
			return false
		}
	}
	return true
}

func TestAllExamples(t *testing.T) {
	f, _ := frame.Put(nil, []byte("a"))
	l, at := frame.All(append(f, 0))
	if !sameRows(l, [][]byte{[]byte("a")}) || at != 7 {
		t.Error(l, at)
	}
}

func TestAll(t *testing.T) {
	for _, b := range [][]byte{nil, {}, {0}, {0, 0}, make([]byte, 5), make([]byte, 6), make([]byte, 99), []byte("no frame at all")} {
		if l, at := frame.All(b); len(l) != 0 || at != 0 {
			t.Errorf("%x: %x %d", b, l, at)
		}
	}
	var b []byte
	for _, x := range wholes() {
		b = append(b, frameOf(x)...)
	}
	for _, behind := range []string{"", "\x00", "\x00\x00\x00\x00\x00\x00", "\xff\xff\xff\xff\xff\xff\xff", "\x00\x01aaaaa"} {
		if l, at := frame.All(append(bytes.Clone(b), behind...)); !sameRows(l, wholes()) || at != len(b) {
			t.Errorf("with %q behind: %d frames, %d", behind, len(l), at)
		}
	}
}

// The first frame that is none ends the row, whatever stands behind it.
func TestAllUpToTheFirstFault(t *testing.T) {
	rows := [][]byte{[]byte("one"), nil, []byte("three"), []byte("four")}
	var places []int
	var b []byte
	for _, x := range rows {
		places = append(places, len(b))
		b = append(b, frameOf(x)...)
	}
	for i, at := range places {
		turned := bytes.Clone(b)
		turned[at+2] ^= 4
		if l, end := frame.All(turned); !sameRows(l, rows[:i]) || end != at {
			t.Errorf("frame %d is turned: %x %d", i, l, end)
		}
		long := bytes.Clone(b)
		long[at] = 255
		if l, end := frame.All(long); !sameRows(l, rows[:i]) || end != at {
			t.Errorf("frame %d is too long: %x %d", i, l, end)
		}
	}
}

// P2.6

// A put is what the row of TestThereAndBack has at a place.
type put struct {
	kind, n int
	s       string
	x       []byte
}

func (p put) String() string {
	return fmt.Sprintf("kind %d: %d, %q, %x", p.kind, p.n, p.s, p.x)
}

func (p put) behind(b []byte) ([]byte, api.Errno) {
	switch p.kind {
	case 0:
		return frame.PutUint(b, p.n)
	case 1:
		return frame.PutText(b, p.s)
	}
	return frame.Put(b, p.x)
}

func (p put) from(b []byte, at int) (bool, int, api.Errno) {
	switch p.kind {
	case 0:
		n, next, e := frame.GetUint(b, at)
		return n == p.n, next, e
	case 1:
		s, next, e := frame.GetText(b, at)
		return s == p.s, next, e
	}
	x, next, e := frame.Get(b, at)
	return bytes.Equal(x, p.x), next, e
}

func TestThereAndBack(t *testing.T) {
	next := sequence()
	for range 30 {
		var b []byte
		var puts []put
		for range 40 {
			p := put{kind: int(next() % 3), n: int(next() >> (1 + next()%63))}
			p.s, p.x = string(mixed(next, int(next()%200))), mixed(next, int(next()%600))
			longer, e := p.behind(b)
			if e != api.OK || !bytes.HasPrefix(longer, b) {
				t.Fatalf("%v: %d", p, e)
			}
			b, puts = longer, append(puts, p)
		}
		at := 0
		for _, p := range puts {
			good, end, e := p.from(b, at)
			if !good || e != api.OK {
				t.Fatalf("%v at %d: %d", p, at, e)
			}
			at = end
		}
		if at != len(b) {
			t.Fatalf("%d bytes read of %d", at, len(b))
		}
	}
}

// What is read as a number has just these bytes.
func TestOneForm(t *testing.T) {
	check := func(b []byte) {
		n, next, e := frame.GetUint(b, 0)
		if e != api.OK {
			return
		}
		if c, e := frame.PutUint(nil, n); n < 0 || e != api.OK || !bytes.Equal(c, b[:next]) {
			t.Fatalf("%x: %d %x", b, n, c)
		}
	}
	for w := range 1 << 16 {
		check([]byte{byte(w), byte(w >> 8)})
		for _, high := range []int{7, 8} {
			b := append(bytes.Repeat([]byte{0x80}, high), byte(w), byte(w>>8))
			check(b)
		}
	}
	next := sequence()
	for range 20000 {
		b := mixed(next, 12)
		for i := range next() % 10 {
			b[i] |= 0x80
		}
		check(b)
	}
}

// P2.7

func TestCut(t *testing.T) {
	rows := [][]byte{[]byte("a"), nil, make([]byte, 9), []byte("\x00\x00\x00\x00"), bytes.Repeat([]byte("\x00\x01"), 150), []byte("end")}
	var ends []int
	var b []byte
	for _, x := range rows {
		b, _ = frame.Put(b, x)
		ends = append(ends, len(b))
	}
	for cut := range len(b) + 1 {
		whole, end := 0, 0
		for whole < len(ends) && ends[whole] <= cut {
			end = ends[whole]
			whole++
		}
		if l, at := frame.All(b[:cut]); !sameRows(l, rows[:whole]) || at != end {
			t.Fatalf("cut at %d: %d frames, %d", cut, len(l), at)
		}
	}
}

// P2.8

// turn turns the bits of a pattern, from a place on, within a byte from the lowest one on.
func turn(b []byte, at int, pattern uint32) []byte {
	turned := bytes.Clone(b)
	for i := range 32 {
		if pattern>>i&1 == 1 {
			turned[(at+i)/8] ^= 1 << ((at + i) % 8)
		}
	}
	return turned
}

func TestTurned(t *testing.T) {
	next := sequence()
	patterns := []uint32{1, 3, 5, 0x80000001, 0xffffffff, 0x82f63b78, 0x05ec76f1, 0xedb88320, 0xaaaaaaaa}
	for range 30 {
		patterns = append(patterns, uint32(next()>>9)|1)
	}
	for _, x := range [][]byte{nil, []byte("a"), []byte("123456789"), make([]byte, 40), mixed(next, 60)} {
		f, e := frame.Put(nil, x)
		if e != api.OK {
			t.Fatal(e)
		}
		for at := 16; at < 8*len(f); at++ {
			for _, p := range patterns {
				if room := 8*len(f) - at; room < 32 {
					p &= 1<<room - 1
				}
				if p == 0 {
					continue
				}
				y, end, e := frame.Get(turn(f, at, p), 0)
				if len(y) != 0 || end != 0 || e != api.ErrCorrupt {
					t.Fatalf("%d bytes, %x turned at %d: %d", len(x), p, at, e)
				}
			}
		}
	}
}

func TestSumOfThree(t *testing.T) {
	next := sequence()
	for n := range 70 {
		a, b, c := mixed(next, n), mixed(next, n), mixed(next, n)
		d := make([]byte, n)
		for i := range d {
			d[i] = a[i] ^ b[i] ^ c[i]
		}
		if frame.Sum(d) != frame.Sum(a)^frame.Sum(b)^frame.Sum(c) {
			t.Errorf("%x %x %x", a, b, c)
		}
	}
}

// The rules that hold everywhere: what is handed in is not changed, and an
// answer is new memory.

func TestPutSharesNothing(t *testing.T) {
	back := []byte("0123456789012345678901234567890123456789")
	for _, size := range []int{0, 3} {
		for _, p := range []put{{kind: 0, n: math.MaxInt}, {kind: 0, n: 5}, {kind: 1, s: "text"}, {kind: 1}, {kind: 2, x: []byte("bytes")}, {kind: 2}} {
			room, x := bytes.Clone(back), bytes.Clone(p.x)
			b, e := p.behind(room[:size])
			c, _ := p.behind(room[:size])
			if e != api.OK || !bytes.Equal(room, back) || !bytes.Equal(p.x, x) {
				t.Fatalf("%v: what was handed in is %q", p, room)
			}
			want := bytes.Clone(b)
			for i := range room {
				room[i] = '#'
			}
			for i := range p.x {
				p.x[i] = '#'
			}
			for i := range c {
				c[i] = '#'
			}
			if !bytes.Equal(b, want) {
				t.Fatalf("%v: an answer shares memory", p)
			}
		}
	}
}

func TestAnswersShareNothing(t *testing.T) {
	b := append(frameOf([]byte("one")), frameOf([]byte("two"))...)
	back := bytes.Clone(b)
	x, _, _ := frame.Get(b, 0)
	y, _, _ := frame.Get(b, 0)
	l, _ := frame.All(b)
	s, _, _ := frame.GetText([]byte("\x01a"), 0)
	frame.GetUint(b, 0)
	frame.Sum(b)
	if !bytes.Equal(b, back) {
		t.Fatal("what was handed in is changed")
	}
	for i := range b {
		b[i] = '#'
	}
	y[0] = '#'
	_ = append(l[0], "####"...)
	if string(x) != "one" || string(l[0]) != "one" || string(l[1]) != "two" || s != "a" {
		t.Fatalf("%q %q %q", x, l, s)
	}
	l[0][2] = '#'
	if string(l[1]) != "two" || string(x) != "one" {
		t.Fatal("two lists of an answer share memory")
	}
}

func TestTextSharesNothing(t *testing.T) {
	b := []byte("\x05hello")
	s, _, e := frame.GetText(b, 0)
	copy(b, "######")
	if s != "hello" || e != api.OK {
		t.Fatalf("%q %d", s, e)
	}
}
