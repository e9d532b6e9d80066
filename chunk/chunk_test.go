package chunk_test

import (
	"bytes"
	"math"
	"slices"
	"strconv"
	"strings"
	"testing"

	"gauge/api"
	"gauge/chunk"
)

// The tests' own way of laying a chunk down, apart from the package's: as a
// text of digits 0 and 1.

// said tells the digits of a number as it says itself.
func said(u uint64) string {
	if u == 0 {
		return "0000000"
	}
	digits := strconv.FormatUint(u, 2)
	return filled(strconv.FormatInt(int64(len(digits)), 2), 7) + digits
}

// filled tells the last n digits of a text, with 0 ahead where there are fewer.
func filled(s string, n int) string {
	s = strings.Repeat("0", n) + s
	return s[len(s)-n:]
}

// zig tells a number with a sign as one without.
func zig(n int) uint64 {
	if n < 0 {
		return 2*uint64(-(n+1)) + 1
	}
	return 2 * uint64(n)
}

// numbers tells the numbers of a chunk.
func numbers(l []api.Sample) []uint64 {
	us := []uint64{uint64(len(l)), uint64(l[0].T), zig(l[0].V)}
	for i := 1; i < len(l); i++ {
		if i == 1 {
			us = append(us, uint64(l[1].T-l[0].T))
		} else {
			us = append(us, zig((l[i].T-l[i-1].T)-(l[i-1].T-l[i-2].T)))
		}
		us = append(us, zig(l[i].V-l[i-1].V))
	}
	return us
}

// digits tells the digits of numbers, each as it says itself.
func digits(us ...uint64) string {
	s := ""
	for _, u := range us {
		s += said(u)
	}
	return s
}

// packed tells digits as bytes, with bits 0 up to the last byte's end.
func packed(s string) []byte {
	var b []byte
	for i := 0; i < len(s); i += 8 {
		piece := (s[i:min(i+8, len(s))] + "0000000")[:8]
		u, err := strconv.ParseUint(piece, 2, 8)
		if err != nil {
			panic(err)
		}
		b = append(b, byte(u))
	}
	return b
}

// laid tells the chunk of samples.
func laid(l []api.Sample) []byte {
	return packed(digits(numbers(l)...))
}

// mixed tells numbers that look mixed, and are the same each time.
func mixed() func(below int) int {
	u := uint64(88172645463325252)
	return func(below int) int {
		u ^= u << 13
		u ^= u >> 7
		u ^= u << 17
		return int(u % uint64(below))
	}
}

// row tells n samples whose distances and values are of many sizes.
func row(next func(below int) int, n int) []api.Sample {
	l := make([]api.Sample, n)
	t, v := next(1<<next(30)), 0
	for i := range l {
		v = max(-api.MaxVal, min(api.MaxVal, v+next(2<<next(58))-1<<next(58)))
		l[i] = api.Sample{T: t, V: v}
		t += 1 + next(1<<next(32))
	}
	return l
}

// steady tells n samples with a first time, a distance, a value.
func steady(n, first, distance, v int) []api.Sample {
	l := make([]api.Sample, n)
	for i := range l {
		l[i] = api.Sample{T: first + i*distance, V: v}
	}
	return l
}

// many are lists of samples that may be a chunk's: the edges, and mixed ones.
func many() [][]api.Sample {
	const top = api.MaxVal
	const end = api.MaxTime
	ls := [][]api.Sample{
		{{T: 10, V: 5}}, {{}}, {{T: end}}, {{V: top}}, {{V: -top}}, {{T: end, V: -top}},
		{{T: 0, V: -top}, {T: end, V: top}},
		{{T: 0, V: top}, {T: 1, V: -top}, {T: end, V: top}},
		{{T: 0, V: top}, {T: end - 1, V: -top}, {T: end, V: -top}},
		{{T: end - 2}, {T: end - 1}, {T: end}},
		{{T: 10, V: 5}, {T: 20, V: 4}, {T: 30, V: 4}, {T: 45, V: -7}},
		{{T: 10, V: 5}, {T: 20, V: 4}, {T: 22, V: 4}, {T: 23, V: -7}, {T: 33}, {T: 34}},
		steady(api.MaxChunk, 0, 1, 0), steady(api.MaxChunk, end-api.MaxChunk+1, 1, -top),
		steady(api.MaxChunk-1, 1000, 15000, 1), steady(2, 0, end, top), steady(63, 7, 1, 3), steady(64, 7, 1, 3),
	}
	next := mixed()
	for n := range api.MaxChunk {
		ls = append(ls, row(next, n+1))
	}
	return ls
}

// A wrong is a list of samples that may be no chunk's, and why.
type wrong struct {
	l []api.Sample
	e api.Errno
}

// wrongs are such lists, with the orders of errors among them.
func wrongs() []wrong {
	const top = api.MaxVal
	const end = api.MaxTime
	over := []wrong{
		{nil, api.ErrArg}, {[]api.Sample{}, api.ErrArg},
		{steady(121, 0, 1, 0), api.ErrArg}, {make([]api.Sample, 121), api.ErrArg}, {make([]api.Sample, 4000), api.ErrArg},
		{steady(121, -1, 1, 0), api.ErrArg},
		{[]api.Sample{{T: 5}, {T: 5}}, api.ErrOrder}, {[]api.Sample{{T: 5}, {T: 4}}, api.ErrOrder},
		{[]api.Sample{{T: 5}, {T: 6}, {T: 6}}, api.ErrOrder}, {[]api.Sample{{T: end}, {T: 0}}, api.ErrOrder},
		{[]api.Sample{{T: 5}, {T: 7}, {T: 6}, {T: 8}}, api.ErrOrder},
		{[]api.Sample{{T: 5}, {T: 5}, {T: -1}}, api.ErrOrder}, {[]api.Sample{{T: 5}, {T: -1}, {T: -1}}, api.ErrOver},
		{[]api.Sample{{T: 5}, {T: 5, V: top + 1}}, api.ErrOver}, {[]api.Sample{{T: 5}, {T: 4}, {T: 6, V: top + 1}}, api.ErrOrder},
	}
	for _, s := range beyond() {
		over = append(over, wrong{[]api.Sample{s}, api.ErrOver}, wrong{[]api.Sample{{}, s, {T: 1}}, api.ErrOver})
	}
	full := steady(120, 0, 1, 0)
	full[119].T = 118
	return append(over, wrong{full, api.ErrOrder})
}

// beyond are samples that may not be.
func beyond() []api.Sample {
	return []api.Sample{
		{T: -1}, {T: api.MaxTime + 1}, {T: math.MinInt}, {T: math.MaxInt}, {T: -1, V: api.MaxVal + 1},
		{T: 9, V: api.MaxVal + 1}, {T: 9, V: -api.MaxVal - 1}, {T: 9, V: math.MaxInt}, {T: 9, V: math.MinInt},
	}
}

// broken are bytes that are no chunk, by names.
func broken() map[string][]byte {
	const all = math.MaxUint64
	const end = api.MaxTime
	top := zig(api.MaxVal)
	m := map[string][]byte{"none": nil, "empty": {}}
	for name, us := range map[string][]uint64{
		"no number of samples":           {},
		"no samples":                     {0},
		"no samples, and a sample":       {0, 10, 10},
		"a sample too few":               {2, 10, 10},
		"half a sample too few":          {2, 20, 10, 5},
		"a sample too much":              {1, 10, 10, 5, 0},
		"a number too much":              {1, 10, 10, 0},
		"as many as goes":                {all, 10, 10},
		"a time too late":                {1, end + 1, 0},
		"a time with a sign":             {1, all, 0},
		"a time as great as goes":        {1, 1 << 63, 0},
		"a value too great":              {1, 0, top + 2},
		"a value too small":              {1, 0, top + 1},
		"the least value":                {1, 0, all},
		"the greatest value":             {1, 0, all - 1},
		"a second time that is the same": {2, 10, 10, 0, 0},
		"a second time too late":         {2, 10, 10, end - 9, 0},
		"a second time that wraps":       {2, 10, 10, all, 0},
		"one that wraps to 0":            {2, 10, 10, all - 9, 0},
		"one that wraps to a late one":   {2, end, 0, 1 << 63, 0},
		"a second value too great":       {2, 10, top, 1, zig(1)},
		"a second value too small":       {2, 10, top - 1, 1, zig(-1)},
		"a second value that wraps":      {2, 10, top, 1, all - 1},
		"one that wraps below":           {2, 10, top - 1, 1, all},
		"a third time that is the same":  {3, 10, 0, 5, 0, zig(-5), 0},
		"a third time that falls":        {3, 10, 0, 5, 0, zig(-6), 0},
		"a third time too late":          {3, 10, 0, 5, 0, zig(end - 19), 0},
		"a third time below 0":           {3, 10, 0, 5, 0, zig(-30), 0},
		"a third time that wraps":        {3, 10, 0, 5, 0, all - 1, 0},
		"a third time that wraps below":  {3, 10, 0, 5, 0, all, 0},
		"a third value too great":        {3, 10, top, 5, zig(-1), 0, zig(2)},
		"a fall between":                 {4, 10, 0, 5, 0, zig(-6), 0, zig(9), 0},
	} {
		m[name] = packed(digits(us...))
	}
	m["121 samples"] = laid(steady(121, 0, 1, 0))
	m["127 samples"] = laid(steady(127, 0, 1, 0))
	m["128 samples"] = laid(steady(128, 0, 1, 0))
	m["a number with a 0 ahead"] = packed(said(1) + "0000101" + "01010" + said(10))
	m["a value with a 0 ahead"] = packed(said(1) + said(10) + "0000001" + "0")
	m["a count with a 0 ahead"] = packed("0000010" + "01" + digits(10, 10))
	m["65 digits"] = packed(said(1) + "1000001" + strings.Repeat("1", 65) + said(10))
	m["127 digits"] = packed(said(1) + said(10) + "1111111" + strings.Repeat("1", 127))
	m["a byte too much"] = []byte("\x03\x09\x41\x28\x00")
	m["bytes too much"] = append([]byte("\x03\x09\x41\x28"), make([]byte, 100)...)
	m["a byte too few"] = []byte("\x03\x09\x41")
	m["a bit 1 behind"] = []byte("\x03\x09\x41\x29")
	m["a bit 1 just behind"] = []byte("\x03\x09\x41\x2a")
	m["a whole chunk behind"] = []byte("\x03\x09\x41\x28\x03\x09\x41\x28")
	return m
}

// corrupt looks whether all calls tell that bytes are no chunk.
func corrupt(t *testing.T, name string, b []byte) {
	t.Helper()
	if l, e := chunk.Decode(b); len(l) != 0 || e != api.ErrCorrupt {
		t.Errorf("Decode of %s: %v %d", name, l, e)
	}
	if n, first, last, e := chunk.Bounds(b); n != 0 || first != 0 || last != 0 || e != api.ErrCorrupt {
		t.Errorf("Bounds of %s: %d %d %d %d", name, n, first, last, e)
	}
	for _, at := range []int{math.MinInt, 0, 11, math.MaxInt} {
		if k, e := chunk.Seek(b, at); k != 0 || e != api.ErrCorrupt {
			t.Errorf("Seek of %s at %d: %d %d", name, at, k, e)
		}
	}
	for _, s := range append(beyond(), api.Sample{T: api.MaxTime}) {
		if c, e := chunk.Append(b, s); len(c) != 0 || e != api.ErrCorrupt {
			t.Errorf("Append to %s of %v: %x %d", name, s, c, e)
		}
	}
}

// P5.1

func TestCheck(t *testing.T) {
	for _, l := range many() {
		if e := chunk.Check(l); e != api.OK {
			t.Errorf("%v: %d", l, e)
		}
	}
	for _, w := range wrongs() {
		if e := chunk.Check(w.l); e != w.e {
			t.Errorf("%v: %d, not %d", w.l, e, w.e)
		}
	}
}

func TestEncodeExamples(t *testing.T) {
	b, e := chunk.Encode([]api.Sample{{T: 10, V: 5}})
	if string(b) != "\x03\x09\x41\x28" || e != api.OK {
		t.Errorf("%x %d", b, e)
	}
	for _, w := range []wrong{{nil, api.ErrArg}, {[]api.Sample{{T: 5}, {T: 5}}, api.ErrOrder}, {[]api.Sample{{T: -1}}, api.ErrOver}} {
		if b, e := chunk.Encode(w.l); len(b) != 0 || e != w.e {
			t.Errorf("%v: %x %d", w.l, b, e)
		}
	}
}

func TestEncodeByHand(t *testing.T) {
	b, e := chunk.Encode([]api.Sample{{T: 10, V: 5}, {T: 20, V: 4}, {T: 30, V: 4}, {T: 45, V: -7}})
	want := packed("0000011" + "100" + // 4 samples
		"0000100" + "1010" + "0000100" + "1010" + // 10, and Zig of 5
		"0000100" + "1010" + "0000001" + "1" + // 10, and Zig of -1
		"0000000" + "0000000" + // 0, and 0
		"0000100" + "1010" + "0000101" + "10101") // Zig of 5, and Zig of -11
	if !bytes.Equal(b, want) || e != api.OK {
		t.Errorf("%x %d, not %x", b, e, want)
	}
	// A distance that falls, at a change below 0.
	b, e = chunk.Encode([]api.Sample{{}, {T: 4}, {T: 5}})
	if want := packed(digits(3, 0, 0, 4, 0, 5, 0)); !bytes.Equal(b, want) || e != api.OK {
		t.Errorf("%x %d, not %x", b, e, want)
	}
}

func TestEncode(t *testing.T) {
	for _, l := range many() {
		ahead := slices.Clone(l)
		b, e := chunk.Encode(l)
		if want := laid(ahead); !bytes.Equal(b, want) || e != api.OK {
			t.Errorf("%v: %x %d, not %x", l, b, e, want)
		}
		if !slices.Equal(l, ahead) {
			t.Errorf("%v became %v", ahead, l)
		}
	}
	for _, w := range wrongs() {
		if b, e := chunk.Encode(w.l); len(b) != 0 || e != w.e {
			t.Errorf("%v: %x %d, not %d", w.l, b, e, w.e)
		}
	}
}

// P5.2

func TestDecodeExamples(t *testing.T) {
	b := []byte("\x03\x09\x41\x28")
	if l, e := chunk.Decode(b); !slices.Equal(l, []api.Sample{{T: 10, V: 5}}) || e != api.OK {
		t.Error(l, e)
	}
	if n, first, last, e := chunk.Bounds(b); n != 1 || first != 10 || last != 10 || e != api.OK {
		t.Error(n, first, last, e)
	}
	for at, want := range map[int]int{10: 0, 11: 1, math.MinInt: 0, -1: 0, 0: 0, 9: 0, math.MaxInt: 1} {
		if k, e := chunk.Seek(b, at); k != want || e != api.OK {
			t.Errorf("at %d: %d %d", at, k, e)
		}
	}
	if l, e := chunk.Decode(nil); len(l) != 0 || e != api.ErrCorrupt {
		t.Error(l, e)
	}
}

func TestDecode(t *testing.T) {
	for _, l := range many() {
		b := laid(l)
		m, e := chunk.Decode(b)
		if !slices.Equal(l, m) || e != api.OK {
			t.Errorf("%v: %v %d", l, m, e)
		}
		if n, first, last, e := chunk.Bounds(b); n != len(l) || first != l[0].T || last != l[len(l)-1].T || e != api.OK {
			t.Errorf("%v: %d %d %d %d", l, n, first, last, e)
		}
		if !bytes.Equal(b, laid(l)) {
			t.Errorf("%v: its bytes became %x", l, b)
		}
	}
}

func TestBroken(t *testing.T) {
	for name, b := range broken() {
		corrupt(t, name, b)
	}
}

func TestJustNotBroken(t *testing.T) {
	const end = api.MaxTime
	top := zig(api.MaxVal)
	for _, us := range [][]uint64{
		{1, end, 0}, {1, 0, top}, {1, 0, top - 1}, {2, 10, 10, end - 10, 0}, {2, 10, 10, 1, 0},
		{2, 10, top, 1, top*2 - 1}, {2, 10, top - 1, 1, top * 2},
		{3, 10, 0, 5, 0, zig(-4), 0}, {3, 10, 0, 5, 0, zig(end - 20), 0},
	} {
		if _, e := chunk.Decode(packed(digits(us...))); e != api.OK {
			t.Errorf("%v: %d", us, e)
		}
	}
}

func TestCutOff(t *testing.T) {
	for _, l := range [][]api.Sample{{{T: 10, V: 5}}, {{}}, many()[10], steady(120, 9, 9, 9), row(mixed(), 20)} {
		b := laid(l)
		for n := range len(b) {
			corrupt(t, "a beginning", b[:n])
		}
		corrupt(t, "a byte 0 behind", append(slices.Clone(b), 0))
		corrupt(t, "a byte behind", append(slices.Clone(b), 0x80))
	}
}

// TestAllShortBytes goes through all of one and two bytes, and through all of
// three behind the byte of one sample: what is read is laid down, in the tests'
// own way, in just these bytes.
func TestAllShortBytes(t *testing.T) {
	found := 0
	look := func(b ...byte) {
		l, e := chunk.Decode(b)
		if e == api.OK {
			found++
			if chunk.Check(l) != api.OK || !bytes.Equal(laid(l), b) {
				t.Fatalf("%x: %v", b, l)
			}
		} else if e != api.ErrCorrupt || len(l) != 0 {
			t.Fatalf("%x: %v %d", b, l, e)
		}
	}
	for u := range 1 << 16 {
		look(byte(u >> 8))
		look(byte(u>>8), byte(u))
	}
	if found != 0 {
		t.Errorf("%d chunks of one or two bytes", found)
	}
	for u := range 1 << 16 {
		look(3, byte(u>>8), byte(u))
	}
	// With 22 bits there is (0, 0); with 23 (1, 0) and (0, -1); with 24
	// (2, 0), (3, 0), (0, 1), (0, -2) and (1, -1).
	if found != 8 {
		t.Errorf("%d chunks of three bytes", found)
	}
}

func TestTurned(t *testing.T) {
	for _, l := range many() {
		b := laid(l)
		if len(b) > 300 {
			continue
		}
		for i := range 8 * len(b) {
			c := slices.Clone(b)
			c[i/8] ^= 1 << (i % 8)
			m, e := chunk.Decode(c)
			if e == api.OK && (slices.Equal(l, m) || chunk.Check(m) != api.OK || !bytes.Equal(laid(m), c)) {
				t.Fatalf("%v, bit %d: %v", l, i, m)
			}
			if e != api.OK && (e != api.ErrCorrupt || len(m) != 0) {
				t.Fatalf("%v, bit %d: %v %d", l, i, m, e)
			}
		}
	}
}

func TestMixedBytes(t *testing.T) {
	next := mixed()
	for range 20000 {
		b := make([]byte, next(60))
		for i := range b {
			b[i] = byte(next(256) & next(256))
		}
		if len(b) > 0 && next(2) == 0 {
			b[0] = 3
		}
		l, e := chunk.Decode(b)
		if e == api.OK && (chunk.Check(l) != api.OK || !bytes.Equal(laid(l), b)) {
			t.Fatalf("%x: %v", b, l)
		}
		if e != api.OK && (e != api.ErrCorrupt || len(l) != 0) {
			t.Fatalf("%x: %v %d", b, l, e)
		}
	}
}

func TestLongBytes(t *testing.T) {
	b := make([]byte, 1<<24)
	corrupt(t, "bytes 0", b)
	copy(b, "\x03\x09\x41\x28")
	corrupt(t, "a chunk and bytes 0", b)
	for i := range b {
		b[i] = 0xff
	}
	corrupt(t, "bytes ff", b)
}

// P5.3

func TestAppend(t *testing.T) {
	b := laid([]api.Sample{{T: 10, V: 5}, {T: 20, V: 4}})
	for _, s := range []api.Sample{{T: 21}, {T: 30, V: 4}, {T: api.MaxTime, V: api.MaxVal}, {T: 21, V: -api.MaxVal}} {
		c, e := chunk.Append(b, s)
		if want := laid([]api.Sample{{T: 10, V: 5}, {T: 20, V: 4}, s}); !bytes.Equal(c, want) || e != api.OK {
			t.Errorf("%v: %x %d, not %x", s, c, e, want)
		}
	}
	for _, s := range []api.Sample{{T: 20, V: 4}, {T: 20, V: 9}, {T: 19}, {T: 10, V: 5}, {}} {
		if c, e := chunk.Append(b, s); len(c) != 0 || e != api.ErrOrder {
			t.Errorf("%v: %x %d", s, c, e)
		}
	}
	for _, s := range beyond() {
		if c, e := chunk.Append(b, s); len(c) != 0 || e != api.ErrOver {
			t.Errorf("%v: %x %d", s, c, e)
		}
	}
	last := laid([]api.Sample{{T: api.MaxTime}})
	if c, e := chunk.Append(last, api.Sample{T: api.MaxTime}); len(c) != 0 || e != api.ErrOrder {
		t.Errorf("%x %d", c, e)
	}
	if c, e := chunk.Append(last, api.Sample{T: api.MaxTime + 1}); len(c) != 0 || e != api.ErrOver {
		t.Errorf("%x %d", c, e)
	}
}

func TestAppendFull(t *testing.T) {
	l := steady(120, 0, 1, 7)
	b, e := chunk.Append(laid(l[:119]), l[119])
	if !bytes.Equal(b, laid(l)) || e != api.OK {
		t.Errorf("%x %d", b, e)
	}
	for _, s := range append(beyond(), api.Sample{T: 120}, api.Sample{T: 119}, api.Sample{}) {
		if c, e := chunk.Append(b, s); len(c) != 0 || e != api.ErrFull {
			t.Errorf("%v: %x %d", s, c, e)
		}
	}
}

func TestAppendChangesNothing(t *testing.T) {
	l := row(mixed(), 30)
	whole := laid(l)
	room := append(slices.Clone(whole), 0xaa, 0xbb, 0xcc, 0xdd, 0xee, 0xff, 0xaa, 0xbb, 0xcc, 0xdd, 0xee, 0xff)
	ahead := slices.Clone(room)
	b := room[:len(whole)]
	next := api.Sample{T: l[29].T + 1, V: l[29].V}
	c, e := chunk.Append(b, next)
	if !bytes.Equal(c, laid(append(slices.Clone(l), next))) || e != api.OK {
		t.Errorf("%x %d", c, e)
	}
	if !bytes.Equal(room, ahead) {
		t.Errorf("%x became %x", ahead, room)
	}
	clear(c)
	if !bytes.Equal(room, ahead) {
		t.Error("an answer shares what was handed in")
	}
}

func TestAnswersAreNew(t *testing.T) {
	b := laid(row(mixed(), 30))
	ahead := slices.Clone(b)
	l, _ := chunk.Decode(b)
	m, _ := chunk.Decode(b)
	clear(l)
	if chunk.Check(m) != api.OK || !bytes.Equal(laid(m), b) {
		t.Error("two answers of Decode share")
	}
	c, _ := chunk.Encode(m)
	d, _ := chunk.Encode(m)
	clear(c)
	if !bytes.Equal(d, ahead) || !bytes.Equal(b, ahead) {
		t.Error("two answers of Encode share")
	}
}

// P5.4

func TestCut(t *testing.T) {
	for _, n := range []int{1, 2, 119, 120, 121, 239, 240, 241, 360, 1000} {
		l := steady(n, 5, 3, n)
		ahead := slices.Clone(l)
		pieces := chunk.Cut(l)
		if len(pieces) != (n+119)/120 {
			t.Errorf("%d samples: %d pieces", n, len(pieces))
		}
		for i, p := range pieces {
			if !slices.Equal(p, l[120*i:min(120*i+120, n)]) {
				t.Errorf("%d samples, piece %d: %v", n, i, p)
			}
		}
		if !slices.Equal(l, ahead) {
			t.Errorf("%v became %v", ahead, l)
		}
	}
	if p := chunk.Cut(nil); len(p) != 0 {
		t.Error(p)
	}
	if p := chunk.Cut([]api.Sample{}); len(p) != 0 {
		t.Error(p)
	}
}

func TestCutOfAny(t *testing.T) {
	l := append(make([]api.Sample, 150), beyond()...)
	l = append(l, api.Sample{T: 5}, api.Sample{T: 4}, api.Sample{T: 4})
	pieces := chunk.Cut(l)
	if len(pieces) != 2 || len(pieces[0]) != 120 || !slices.Equal(slices.Concat(pieces...), l) {
		t.Error(pieces)
	}
}

func TestCutIsNew(t *testing.T) {
	l := steady(250, 0, 1, 1)
	ahead := slices.Clone(l)
	pieces, others := chunk.Cut(l[:241]), chunk.Cut(l[:241])
	for i := range pieces {
		clear(append(pieces[i], api.Sample{T: -1}, api.Sample{T: -2}))
		clear(pieces[i])
		for j := range pieces {
			want := ahead[120*j : min(120*j+120, 241)]
			if !slices.Equal(others[j], want) {
				t.Error("two answers share")
			}
			if j > i && !slices.Equal(pieces[j], want) {
				t.Error("two pieces share")
			}
		}
	}
	if !slices.Equal(l, ahead) {
		t.Error("a piece shares what was handed in")
	}
}

// P5.5

func TestThereAndBack(t *testing.T) {
	for _, l := range many() {
		b, _ := chunk.Encode(l)
		m, e := chunk.Decode(b)
		if !slices.Equal(l, m) || e != api.OK {
			t.Errorf("%v: %v %d", l, m, e)
		}
	}
}

// TestOneForm lays numbers down that are near ones of a chunk: what is read of
// them at all is laid down in just the same bytes.
func TestOneForm(t *testing.T) {
	next := mixed()
	read := 0
	edges := []uint64{0, 1, 2, 3, api.MaxTime, api.MaxTime + 1, 1 << 61, 1<<61 + 1, 1 << 63, math.MaxUint64 - 1, math.MaxUint64}
	for range 20000 {
		l := row(next, 1+next(5))
		us := numbers(l)
		at := next(len(us))
		switch next(3) {
		case 0:
			us[at] = edges[next(len(edges))]
		case 1:
			us[at] += uint64(next(5)) - 2
		case 2:
			us[at] = -us[at]
		}
		b := packed(digits(us...))
		m, e := chunk.Decode(b)
		if e != api.OK {
			continue
		}
		read++
		if c, f := chunk.Encode(m); !bytes.Equal(b, c) || f != api.OK || !slices.Equal(numbers(m), us) {
			t.Fatalf("%v: %v, %x", us, m, c)
		}
	}
	if read < 2000 {
		t.Error("only", read, "were read")
	}
}

// P5.6

func TestOneByOne(t *testing.T) {
	for _, l := range many() {
		b, e := chunk.Encode(l[:1])
		for i := 1; i < len(l) && e == api.OK; i++ {
			b, e = chunk.Append(b, l[i])
		}
		if want, _ := chunk.Encode(l); !bytes.Equal(b, want) || e != api.OK {
			t.Errorf("%v: %x %d, not %x", l, b, e, want)
		}
	}
}

// P5.7

func TestSeek(t *testing.T) {
	for _, l := range many() {
		b := laid(l)
		ats := []int{math.MinInt, -1, 0, 1, api.MaxTime, api.MaxTime + 1, math.MaxInt}
		for _, s := range l {
			ats = append(ats, s.T-1, s.T, s.T+1)
		}
		for _, at := range ats {
			k, e := chunk.Seek(b, at)
			if e != api.OK || k < 0 || k > len(l) {
				t.Fatalf("%v at %d: %d %d", l, at, k, e)
			}
			if k > 0 && l[k-1].T >= at || k < len(l) && l[k].T < at {
				t.Errorf("%v at %d: %d", l, at, k)
			}
		}
	}
}

// P5.8

func TestSmall(t *testing.T) {
	for _, first := range []int{0, 1, 1000, 1 << 39, api.MaxTime - 120} {
		for _, v := range []int{0, 1, -1, 1000000, api.MaxVal, -api.MaxVal} {
			for n := 1; n <= api.MaxChunk; n++ {
				room := api.MaxTime - first
				for _, distance := range []int{1, 15000, room / max(1, n-1)} {
					if distance*(n-1) > room {
						continue
					}
					b, e := chunk.Encode(steady(n, first, distance, v))
					if most := 8*30 + 14*max(0, n-2); e != api.OK || 8*len(b) > most {
						t.Fatalf("%d samples from %d by %d: %d bytes, %d", n, first, distance, len(b), e)
					}
				}
			}
		}
	}
}
