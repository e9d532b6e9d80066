package posting_test

import (
	"bytes"
	"encoding/binary"
	"fmt"
	"math"
	"slices"
	"strings"
	"testing"

	"gauge/api"
	"gauge/posting"
)

const (
	most = api.MaxText // of a list's numbers
	end  = api.MaxTime // the highest number of a list
)

// run tells n numbers from first on, each so much above the one ahead.
func run(first, step, n int) []int {
	l := make([]int, n)
	for i := range l {
		l[i] = first + i*step
	}
	return l
}

// brief tells a list in few bytes, however long it is.
func brief(l []int) string {
	if len(l) <= 12 {
		return fmt.Sprint(l)
	}
	return fmt.Sprint(l[:6], " .. ", l[len(l)-6:], " of ", len(l))
}

// mixed tells numbers that look mixed, and are the same each time.
func mixed() func(n int) int {
	u := uint64(88172645463325252)
	return func(n int) int {
		u ^= u << 13
		u ^= u >> 7
		u ^= u << 17
		return int((u >> 8) % uint64(n))
	}
}

// picked tells a posting list of n of the numbers below top at the most.
func picked(next func(int) int, n, top int) []int {
	l := make([]int, n)
	for i := range l {
		l[i] = next(top)
	}
	slices.Sort(l)
	return slices.Compact(l)
}

// few are all posting lists of six numbers, those at the ends among them.
func few() [][]int {
	var ls [][]int
	for pick := range 1 << 6 {
		var l []int
		for i, n := range []int{0, 1, 2, 300, end - 1, end} {
			if pick>>i&1 == 1 {
				l = append(l, n)
			}
		}
		ls = append(ls, l)
	}
	return ls
}

// rights are posting lists of many lengths.
func rights() [][]int {
	ls := append(few(), []int{})
	for _, n := range []int{1, 2, 3, 10, 126, 127, 128, 129, most - 1, most} {
		ls = append(ls, run(0, 1, n), run(5, 128, n), run(end-n+1, 1, n), run(end%(n+1), end/(n+1), n), run(1<<39, 1<<20, n))
	}
	for i := range 41 {
		ls = append(ls, []int{1<<i - 1, 1 << i}, []int{0, 1 << i}, []int{1 << i / 2, end})
	}
	next := mixed()
	for range 40 {
		ls = append(ls, picked(next, next(most), end+1), picked(next, next(200), 300), picked(next, most, 2*most))
	}
	return ls
}

// A wrong is a list that is no posting list, and why.
type wrong struct {
	l []int
	e api.Errno
}

// wrongs are such lists, with the orders of errors among them.
func wrongs() []wrong {
	return []wrong{
		{[]int{-1}, api.ErrArg}, {[]int{math.MinInt}, api.ErrArg}, {[]int{end + 1}, api.ErrArg}, {[]int{math.MaxInt}, api.ErrArg}, {[]int{1 << 41}, api.ErrArg},
		{[]int{0, -1}, api.ErrArg}, {[]int{5, -1}, api.ErrArg}, {[]int{1, 2, end + 1}, api.ErrArg}, {[]int{end, end + 1}, api.ErrArg}, {[]int{0, math.MinInt}, api.ErrArg}, {[]int{0, math.MaxInt}, api.ErrArg},
		{[]int{0, 0}, api.ErrOrder}, {[]int{1, 1}, api.ErrOrder}, {[]int{1, 0}, api.ErrOrder}, {[]int{end, end}, api.ErrOrder}, {[]int{end, 0}, api.ErrOrder}, {[]int{1, 3, 2, 4}, api.ErrOrder}, {[]int{1, 3, 3}, api.ErrOrder},
		// Number by number: what stands ahead is told, whichever it is.
		{[]int{-1, -1}, api.ErrArg}, {[]int{-1, 5, 5}, api.ErrArg}, {[]int{end + 1, 5}, api.ErrArg}, {[]int{5, 5, -1}, api.ErrOrder}, {[]int{5, 4, end + 1}, api.ErrOrder}, {[]int{5, -1, -1}, api.ErrArg}, {[]int{3, 2, 1, -1}, api.ErrOrder},
		// How many there are is ahead of what they are.
		{make([]int, most+1), api.ErrBig}, {run(-5, 0, most+1), api.ErrBig}, {run(0, 1, most+1), api.ErrBig}, {run(end+1, 1, 1<<16), api.ErrBig}, {run(9, -1, 2*most), api.ErrBig},
		{make([]int, most), api.ErrOrder}, {run(end-most+2, 1, most), api.ErrArg}, {run(-1, 1, most), api.ErrArg}, {append(run(0, 2, most-1), 2*most-4), api.ErrOrder},
	}
}

// judged tells what Check should: the tests' own way.
func judged(l []int) api.Errno {
	if len(l) >= 1025 {
		return api.ErrBig
	}
	ahead := -1
	for _, n := range l {
		if n < 0 || n > 1099511627776 {
			return api.ErrArg
		}
		if n <= ahead {
			return api.ErrOrder
		}
		ahead = n
	}
	return api.OK
}

// A set is one of the calls on two lists, and which numbers it should tell.
type set struct {
	name  string
	call  func(a, b []int) ([]int, api.Errno)
	holds func(inA, inB bool) bool
}

// sets are these calls.
func sets() []set {
	return []set{
		{"Both", posting.Both, func(inA, inB bool) bool { return inA && inB }},
		{"Either", posting.Either, func(inA, inB bool) bool { return inA || inB }},
		{"Without", posting.Without, func(inA, inB bool) bool { return inA && !inB }},
	}
}

// told tells what a call on two posting lists should: each number that is in a
// list is looked for in both.
func told(s set, a, b []int) []int {
	in := map[int][2]bool{}
	for _, n := range a {
		in[n] = [2]bool{true, in[n][1]}
	}
	for _, n := range b {
		in[n] = [2]bool{in[n][0], true}
	}
	var l []int
	for n, at := range in {
		if s.holds(at[0], at[1]) {
			l = append(l, n)
		}
	}
	slices.Sort(l)
	return l
}

// laid tells a list as bytes, its numbers by a library.
func laid(l []int) []byte {
	b := binary.AppendUvarint(nil, uint64(len(l)))
	last := 0
	for _, n := range l {
		b = binary.AppendUvarint(b, uint64(n-last))
		last = n
	}
	return b
}

// number tells the number at the front of bytes, how many it has, and chapter
// 2's error.
func number(b []byte) (uint64, int, api.Errno) {
	u := uint64(0)
	for i, c := range b {
		if i == 8 && c >= 128 || i > 0 && c == 0 {
			return 0, 0, api.ErrCorrupt
		}
		u += uint64(c%128) << (7 * i)
		if c < 128 {
			return u, i + 1, api.OK
		}
	}
	return 0, 0, api.ErrShort
}

// read tells what Read should: the tests' own way.
func read(b []byte, at int) ([]int, int, api.Errno) {
	if at < 0 || at > len(b) {
		return nil, 0, api.ErrArg
	}
	count, n, e := number(b[at:])
	if e != api.OK {
		return nil, 0, e
	}
	if count > 1024 {
		return nil, 0, api.ErrBig
	}
	at += n
	var l []int
	sum := uint64(0)
	for uint64(len(l)) < count {
		u, n, e := number(b[at:])
		if e != api.OK {
			return nil, 0, e
		}
		if u == 0 && l != nil || sum+u > 1<<40 {
			return nil, 0, api.ErrCorrupt
		}
		sum += u
		at += n
		l = append(l, int(sum))
	}
	return l, at, api.OK
}

// look holds Read of bytes against what it should tell, and tells whether it
// told a list.
func look(t *testing.T, b []byte, at int) bool {
	t.Helper()
	l, next, e := posting.Read(b, at)
	want, behind, fault := read(b, at)
	if !slices.Equal(l, want) || next != behind || e != fault {
		t.Fatalf("%.40x from %d: %s %d %d, not %s %d %d", b, at, brief(l), next, e, brief(want), behind, fault)
	}
	return e == api.OK
}

// P9.1

func TestCheck(t *testing.T) {
	if e := posting.Check([]int{1, 1}); e != api.ErrOrder {
		t.Errorf("the chapter's example: %d", e)
	}
	if e := posting.Check(nil); e != api.OK {
		t.Errorf("no numbers: %d", e)
	}
	for _, l := range rights() {
		if e := posting.Check(l); e != api.OK {
			t.Errorf("%s: %d", brief(l), e)
		}
	}
	for _, w := range wrongs() {
		if e := posting.Check(w.l); e != w.e {
			t.Errorf("%s: %d, not %d", brief(w.l), e, w.e)
		}
	}
}

// TestCheckAllShort goes through all lists of up to five of some numbers.
func TestCheckAllShort(t *testing.T) {
	numbers := []int{math.MinInt, -1, 0, 1, 2, end - 1, end, end + 1, math.MaxInt}
	var walk func(l []int)
	walk = func(l []int) {
		if e := posting.Check(l); e != judged(l) {
			t.Fatalf("%d: %d, not %d", l, e, judged(l))
		}
		if len(l) == 5 {
			return
		}
		for _, n := range numbers {
			walk(append(slices.Clone(l), n))
		}
	}
	walk(nil)
}

// TestCheckEachPlace puts one wrong number to each place of a long list.
func TestCheckEachPlace(t *testing.T) {
	for i := range most {
		for _, n := range []int{-1, end + 1, 0, 2*i - 2, 2*i + 2} {
			l := run(0, 2, most)
			l[i] = n
			if e := posting.Check(l); e != judged(l) {
				t.Fatalf("%d at %d: %d, not %d", n, i, e, judged(l))
			}
		}
	}
}

// P9.2

func TestSetsExamples(t *testing.T) {
	for _, c := range []struct{ a, b, both, either, without []int }{
		{[]int{1, 3, 5}, []int{3, 4, 5}, []int{3, 5}, []int{1, 3, 4, 5}, []int{1}},
		{[]int{3, 4, 5}, []int{1, 3, 5}, []int{3, 5}, []int{1, 3, 4, 5}, []int{4}},
		{nil, nil, nil, nil, nil}, {nil, []int{}, nil, nil, nil}, {[]int{7}, nil, nil, []int{7}, []int{7}}, {nil, []int{7}, nil, []int{7}, nil}, {[]int{7}, []int{7}, []int{7}, []int{7}, nil},
		{[]int{0, end}, []int{0, end}, []int{0, end}, []int{0, end}, nil}, {[]int{0}, []int{end}, nil, []int{0, end}, []int{0}}, {[]int{end}, []int{0}, nil, []int{0, end}, []int{end}},
		{[]int{1, 2, 3}, []int{4, 5}, nil, []int{1, 2, 3, 4, 5}, []int{1, 2, 3}}, {[]int{4, 5}, []int{1, 2, 3}, nil, []int{1, 2, 3, 4, 5}, []int{4, 5}},
		{[]int{2, 4, 6}, []int{1, 3, 5, 7}, nil, []int{1, 2, 3, 4, 5, 6, 7}, []int{2, 4, 6}}, {[]int{1, 2, 3, 4}, []int{2, 3}, []int{2, 3}, []int{1, 2, 3, 4}, []int{1, 4}},
	} {
		for i, want := range [][]int{c.both, c.either, c.without} {
			s := sets()[i]
			if l, e := s.call(c.a, c.b); !slices.Equal(l, want) || e != api.OK {
				t.Errorf("%s of %d and %d: %d %d, not %d", s.name, c.a, c.b, l, e, want)
			}
		}
	}
}

// whole holds a call on two posting lists against what it should tell.
func whole(t *testing.T, s set, a, b []int) {
	t.Helper()
	want, fault := told(s, a, b), api.OK
	if len(want) > 1024 {
		want, fault = nil, api.ErrBig
	}
	if l, e := s.call(a, b); !slices.Equal(l, want) || e != fault {
		t.Fatalf("%s of %s and %s: %s %d, not %s %d", s.name, brief(a), brief(b), brief(l), e, brief(want), fault)
	}
}

func TestSets(t *testing.T) {
	for _, s := range sets() {
		for _, a := range few() {
			for _, b := range few() {
				whole(t, s, a, b)
			}
		}
		next := mixed()
		for range 1000 {
			top := 1 + next(3*most)
			whole(t, s, picked(next, next(most), top), picked(next, next(most), top))
		}
		ls := rights()
		for i, a := range ls {
			whole(t, s, a, ls[len(ls)-1-i])
			whole(t, s, a, a)
			whole(t, s, a, nil)
			whole(t, s, nil, a)
		}
	}
}

func TestEitherBig(t *testing.T) {
	for _, c := range []struct {
		a, b []int
		want api.Errno
	}{
		{run(0, 2, 512), run(1, 2, 512), api.OK}, {run(0, 2, 512), run(1, 2, 513), api.ErrBig}, {run(0, 2, 513), run(1, 2, 512), api.ErrBig},
		{run(0, 1, most), nil, api.OK}, {nil, run(0, 1, most), api.OK}, {run(0, 1, most), run(0, 1, most), api.OK}, {run(0, 1, most), []int{500}, api.OK}, {[]int{500}, run(0, 1, most), api.OK},
		{run(0, 1, most), []int{most}, api.ErrBig}, {[]int{most}, run(0, 1, most), api.ErrBig}, {run(1, 1, most), []int{0}, api.ErrBig}, {run(0, 1, most), []int{end}, api.ErrBig},
		{run(0, 1, most), run(1, 1, most), api.ErrBig}, {run(0, 1, most), run(1, 1, most-1), api.OK}, {run(0, 1, most), run(most, 1, most), api.ErrBig}, {run(0, 2, most), run(1, 2, most), api.ErrBig},
	} {
		l, e := posting.Either(c.a, c.b)
		if e != c.want || e == api.OK && len(l) != most || e != api.OK && len(l) != 0 {
			t.Errorf("%s and %s: %s %d, not %d", brief(c.a), brief(c.b), brief(l), e, c.want)
		}
		// The others tell no more than the first list has.
		for _, s := range []set{sets()[0], sets()[2]} {
			whole(t, s, c.a, c.b)
		}
	}
}

func TestSetsWrong(t *testing.T) {
	for _, s := range sets() {
		for _, w := range wrongs() {
			for _, l := range [][]int{nil, {1, 3}, {0, end}, run(0, 1, most)} {
				if some, e := s.call(w.l, l); e != w.e || len(some) != 0 {
					t.Errorf("%s of %s and %s: %s %d, not %d", s.name, brief(w.l), brief(l), brief(some), e, w.e)
				}
				if some, e := s.call(l, w.l); e != w.e || len(some) != 0 {
					t.Errorf("%s of %s and %s: %s %d, not %d", s.name, brief(l), brief(w.l), brief(some), e, w.e)
				}
			}
			// The error of a is ahead of each error of b.
			for _, v := range wrongs() {
				if some, e := s.call(w.l, v.l); e != w.e || len(some) != 0 {
					t.Errorf("%s of %s and %s: %s %d, not %d", s.name, brief(w.l), brief(v.l), brief(some), e, w.e)
				}
			}
		}
	}
}

// P9.3

func TestPut(t *testing.T) {
	for _, c := range []struct {
		l    []int
		want string
	}{
		{[]int{1, 300}, "\x02\x01\xab\x02"}, {nil, "\x00"}, {[]int{}, "\x00"}, {[]int{0}, "\x01\x00"}, {[]int{127}, "\x01\x7f"}, {[]int{128}, "\x01\x80\x01"}, {[]int{0, 1, 2}, "\x03\x00\x01\x01"},
		{[]int{1, 3, 5}, "\x03\x01\x02\x02"}, {[]int{300, 427, 555}, "\x03\xac\x02\x7f\x80\x01"}, {[]int{end}, "\x01\x80\x80\x80\x80\x80\x20"}, {[]int{0, end}, "\x02\x00\x80\x80\x80\x80\x80\x20"}, {[]int{end - 1, end}, "\x02\xff\xff\xff\xff\xff\x1f\x01"},
		{run(0, 1, 127), "\x7f\x00" + strings.Repeat("\x01", 126)}, {run(0, 1, 128), "\x80\x01\x00" + strings.Repeat("\x01", 127)}, {run(9, 127, most), "\x80\x08\x09" + strings.Repeat("\x7f", most-1)},
	} {
		for _, ahead := range []string{"", "\x00", "ahead", "\xff\xff"} {
			if b, e := posting.Put([]byte(ahead), c.l); e != api.OK || string(b) != ahead+c.want {
				t.Errorf("%s behind %q: %.40x %d", brief(c.l), ahead, b, e)
			}
		}
	}
	for _, l := range rights() {
		for _, ahead := range []string{"", "\x80"} {
			if b, e := posting.Put([]byte(ahead), l); e != api.OK || string(b) != ahead+string(laid(l)) {
				t.Errorf("%s behind %q: %.40x %d", brief(l), ahead, b, e)
			}
		}
	}
}

func TestPutWrong(t *testing.T) {
	for _, w := range wrongs() {
		for _, b := range [][]byte{nil, {}, []byte("ahead")} {
			if c, e := posting.Put(b, w.l); e != w.e || len(c) != 0 {
				t.Errorf("%s: %.40x %d, not %d", brief(w.l), c, e, w.e)
			}
		}
	}
}

func TestRead(t *testing.T) {
	if l, next, e := posting.Read([]byte("\x02\x01\xab\x02"), 0); !slices.Equal(l, []int{1, 300}) || next != 4 || e != api.OK {
		t.Error(l, next, e)
	}
	for _, l := range rights() {
		for _, ahead := range []string{"", "\x00", "\x80", "ahead"} {
			for _, behind := range []string{"", "\x00", "\x01", "\xff\xff"} {
				b := append([]byte(ahead), laid(l)...)
				at := len(b)
				b = append(b, behind...)
				if back, next, e := posting.Read(b, len(ahead)); !slices.Equal(back, l) || next != at || e != api.OK {
					t.Fatalf("%s: %s %d %d", brief(l), brief(back), next, e)
				}
			}
		}
	}
}

func TestReadWrong(t *testing.T) {
	const (
		high  = "\xff\xff\xff\xff\xff\xff\xff\xff\x7f" // the highest number there is
		top   = "\x80\x80\x80\x80\x80\x20"             // MaxTime
		over  = "\x81\x80\x80\x80\x80\x20"             // one more
		round = "\x80\x80\x80\x80\x80\xe0\xff\xff\x7f" // with MaxTime, just beyond what an int has
	)
	for _, c := range []struct {
		b    string
		at   int
		want api.Errno
	}{
		{"", -1, api.ErrArg}, {"", 1, api.ErrArg}, {"\x00", -1, api.ErrArg}, {"\x00", 2, api.ErrArg}, {"\x00", math.MinInt, api.ErrArg}, {"\x00", math.MaxInt, api.ErrArg}, {"\x01\x05", 3, api.ErrArg},
		{"", 0, api.ErrShort}, {"\x00", 1, api.ErrShort}, {"\x80", 0, api.ErrShort}, {"\x01", 0, api.ErrShort}, {"\x01\x80", 0, api.ErrShort}, {"\x02\x05", 0, api.ErrShort}, {"\x02\x05\x81", 0, api.ErrShort}, {"\x01\x05", 1, api.ErrShort},
		{"\x80\x08", 0, api.ErrShort}, {"\x7f\x01\x01", 0, api.ErrShort}, {"\x03\x01\x01", 0, api.ErrShort},
		{"\x80\x00", 0, api.ErrCorrupt}, {"\x81\x00\x05", 0, api.ErrCorrupt}, {"\x01\x85\x00", 0, api.ErrCorrupt}, {"\x02\x05\x81\x00", 0, api.ErrCorrupt}, {"\x02\x05\x80\x00", 0, api.ErrCorrupt},
		{strings.Repeat("\x80", 9), 0, api.ErrCorrupt}, {"\x01" + strings.Repeat("\x80", 9), 0, api.ErrCorrupt}, {"\x01" + strings.Repeat("\xff", 9) + "\x01", 0, api.ErrCorrupt},
		// More than MaxText are told ahead of all that would follow.
		{"\x81\x08", 0, api.ErrBig}, {"\xff\xff\x03", 0, api.ErrBig}, {high, 0, api.ErrBig}, {"\x81\x08\x80\x00", 0, api.ErrBig}, {"\x81\x08\x01\x00", 0, api.ErrBig}, {"\x80\x10" + over, 0, api.ErrBig}, {"\x00\x81\x08", 1, api.ErrBig},
		{string(laid(run(0, 1, most+1))), 0, api.ErrBig}, {string(laid(make([]int, most+1))), 0, api.ErrBig},
		{"\x01" + over, 0, api.ErrCorrupt}, {"\x01" + high, 0, api.ErrCorrupt}, {"\x02\x01" + top, 0, api.ErrCorrupt}, {"\x02" + top + "\x01", 0, api.ErrCorrupt}, {"\x02\x00" + over, 0, api.ErrCorrupt},
		{"\x02\x01" + high, 0, api.ErrCorrupt}, {"\x02" + top + high, 0, api.ErrCorrupt}, {"\x02" + top + round, 0, api.ErrCorrupt}, {"\x03\x01\x01" + high, 0, api.ErrCorrupt},
		{"\x02\x05\x00", 0, api.ErrCorrupt}, {"\x02\x00\x00", 0, api.ErrCorrupt}, {"\x02" + top + "\x00", 0, api.ErrCorrupt}, {"\x03\x01\x01\x00", 0, api.ErrCorrupt},
		// As soon as it is so: ahead of what can not be read behind it.
		{"\x03\x05\x00", 0, api.ErrCorrupt}, {"\x09" + over, 0, api.ErrCorrupt}, {"\x80\x08\x05\x01\x00", 0, api.ErrCorrupt}, {"\x03\x05\x00\x80", 0, api.ErrCorrupt}, {"\x03\x05\x80\x00\x00", 0, api.ErrCorrupt},
		{"\x02\x05\x80", 0, api.ErrShort}, {"\x03\x05\x01\x80", 0, api.ErrShort},
	} {
		if l, next, e := posting.Read([]byte(c.b), c.at); len(l) != 0 || next != 0 || e != c.want {
			t.Errorf("%.40x from %d: %s %d %d, not %d", c.b, c.at, brief(l), next, e, c.want)
		}
		look(t, []byte(c.b), c.at)
	}
}

func TestReadJustRight(t *testing.T) {
	for _, c := range []struct {
		b    string
		want []int
	}{
		{"\x00", nil}, {"\x01\x00", []int{0}}, {"\x02\x00\x01", []int{0, 1}}, {"\x01\x80\x80\x80\x80\x80\x20", []int{end}}, {"\x02\x00\x80\x80\x80\x80\x80\x20", []int{0, end}}, {"\x02\x01\xff\xff\xff\xff\xff\x1f", []int{1, end}},
		{"\x02\xff\xff\xff\xff\xff\x1f\x01", []int{end - 1, end}}, {"\x80\x08\x00" + strings.Repeat("\x01", most-1), run(0, 1, most)},
	} {
		if l, next, e := posting.Read([]byte(c.b), 0); !slices.Equal(l, c.want) || next != len(c.b) || e != api.OK {
			t.Errorf("%.40x: %s %d %d", c.b, brief(l), next, e)
		}
	}
}

func TestReadCut(t *testing.T) {
	for _, l := range rights() {
		b := laid(l)
		for n := 0; n < len(b); n += 1 + len(b)/100 {
			if back, next, e := posting.Read(b[:n], 0); len(back) != 0 || next != 0 || e != api.ErrShort {
				t.Fatalf("%d bytes of %s: %s %d %d", n, brief(l), brief(back), next, e)
			}
		}
	}
}

// TestReadAllShort goes through all of two bytes, and all of two behind some.
func TestReadAllShort(t *testing.T) {
	for u := range 1 << 16 {
		x, y := byte(u>>8), byte(u)
		look(t, []byte{x}, 0)
		look(t, []byte{x, y}, 0)
		for _, ahead := range []string{"\x01", "\x02", "\x02\x05", "\x03\x80", "\x03\x05\x00", "\x02\x80\x80\x80\x80", "\x02\x00\xff\xff\xff\xff", "\x02\xff\xff\xff\xff\xff\x1f"} {
			look(t, append([]byte(ahead), x, y), 0)
		}
	}
}

func TestReadMixed(t *testing.T) {
	next := mixed()
	found := 0
	for range 60000 {
		b := make([]byte, 1+next(40))
		for i := range b {
			b[i] = byte(next(256) & next(256))
		}
		b[0] %= 12
		if look(t, b, 0) {
			found++
		}
		look(t, b, next(len(b)+2))
	}
	if found < 1000 {
		t.Errorf("only %d lists", found)
	}
}

// P9.4

// has tells whether a number is in a list.
func has(l []int, n int) bool {
	_, found := slices.BinarySearch(l, n)
	return found
}

// ask tells what a call on two lists tells, which is a posting list.
func ask(t *testing.T, call func(a, b []int) ([]int, api.Errno), a, b []int) []int {
	t.Helper()
	l, e := call(a, b)
	if e != api.OK || posting.Check(l) != api.OK {
		t.Fatalf("%s and %s: %s %d", brief(a), brief(b), brief(l), e)
	}
	return l
}

// laws holds what is told of two lists against one another, at some numbers.
func laws(t *testing.T, a, b, numbers []int) {
	t.Helper()
	both, either, without := ask(t, posting.Both, a, b), ask(t, posting.Either, a, b), ask(t, posting.Without, a, b)
	if !slices.Equal(both, ask(t, posting.Both, b, a)) || !slices.Equal(either, ask(t, posting.Either, b, a)) {
		t.Fatalf("%s and %s, turned round", brief(a), brief(b))
	}
	for _, n := range numbers {
		inA, inB := has(a, n), has(b, n)
		if has(both, n) != (inA && inB) || has(either, n) != (inA || inB) || has(without, n) != (inA && !inB) {
			t.Fatalf("%d of %s and %s: %s, %s, %s", n, brief(a), brief(b), brief(both), brief(either), brief(without))
		}
	}
	if !slices.Equal(ask(t, posting.Either, both, without), a) || len(ask(t, posting.Both, both, without)) != 0 || len(both)+len(without) != len(a) {
		t.Fatalf("%s and %s: %s and %s", brief(a), brief(b), brief(both), brief(without))
	}
}

func TestLaws(t *testing.T) {
	for _, a := range few() {
		for _, b := range few() {
			laws(t, a, b, []int{0, 1, 2, 3, 299, 300, 301, end - 2, end - 1, end})
		}
	}
	next := mixed()
	for range 1000 {
		top := 1 + next(1500)
		a, b := picked(next, next(512), top), picked(next, next(512), top)
		laws(t, a, b, slices.Concat(a, b, picked(next, 50, top)))
	}
}

// P9.5

func TestThereAndBack(t *testing.T) {
	var row []byte
	for _, l := range rights() {
		longer, e := posting.Put(row, l)
		if e != api.OK || !bytes.HasPrefix(longer, row) {
			t.Fatalf("%s: %d", brief(l), e)
		}
		row = longer
	}
	at := 0
	for _, l := range rights() {
		back, next, e := posting.Read(row, at)
		if e != api.OK || !slices.Equal(back, l) {
			t.Fatalf("%s at %d: %s %d", brief(l), at, brief(back), e)
		}
		at = next
	}
	if at != len(row) {
		t.Errorf("%d bytes read of %d", at, len(row))
	}
}

// again lays what is read of bytes down, and holds it against them.
func again(t *testing.T, b []byte) bool {
	t.Helper()
	l, next, e := posting.Read(b, 0)
	if e != api.OK {
		return false
	}
	if c, e := posting.Put(nil, l); posting.Check(l) != api.OK || e != api.OK || !bytes.Equal(c, b[:next]) {
		t.Fatalf("%x: %s, laid down %x %d", b, brief(l), c, e)
	}
	return true
}

func TestOneForm(t *testing.T) {
	found := 0
	for u := range 1 << 24 {
		// Lists of up to three numbers, and numbers of up to three bytes.
		if u>>16&0x7f < 4 && again(t, []byte{byte(u >> 16), byte(u >> 8), byte(u), 1}) {
			found++
		}
	}
	if found < 100000 {
		t.Errorf("only %d lists", found)
	}
	for _, l := range rights() {
		for i := range min(8*len(laid(l)), 400) {
			b := laid(l)
			b[i/8] ^= 1 << (i % 8)
			if again(t, b) {
				if back, _, _ := posting.Read(b, 0); slices.Equal(back, l) {
					t.Fatalf("bit %d of %s: the list stays", i, brief(l))
				}
			}
		}
	}
}

// The rules that hold everywhere: what is handed in is not changed, and an
// answer is new memory.

func TestSetsShareNothing(t *testing.T) {
	room, other := []int{1, 3, 5, 99, 98}, []int{3, 4, 5, 97, 96}
	back, otherBack := slices.Clone(room), slices.Clone(other)
	for _, s := range sets() {
		for _, c := range [][2][]int{{room[:3], other[:3]}, {room[:3], nil}, {nil, other[:3]}, {room[:3], room[:0]}, {room[:3], room[:3]}, {room[:1], room[1:3]}, {room[:0], other[:0]}} {
			one, _ := s.call(c[0], c[1])
			two, _ := s.call(c[0], c[1])
			want := slices.Clone(one)
			for _, l := range [][]int{two, append(two, -7, -7, -7)} {
				for i := range l {
					l[i] = -9
				}
			}
			if !slices.Equal(one, want) || !slices.Equal(room, back) || !slices.Equal(other, otherBack) {
				t.Fatalf("%s: %d, of %d and %d", s.name, one, room, other)
			}
		}
	}
}

func TestBytesShareNothing(t *testing.T) {
	back := []byte("0123456789012345678901234567890123456789")
	for _, l := range [][]int{nil, {5}, {1, 300, end}} {
		for _, size := range []int{0, 3, len(back)} {
			room, numbers := bytes.Clone(back), append(slices.Clone(l), -7)
			b, e := posting.Put(room[:size], numbers[:len(l)])
			c, _ := posting.Put(room[:size], numbers[:len(l)])
			if e != api.OK || !bytes.Equal(room, back) || !slices.Equal(numbers, append(slices.Clone(l), -7)) {
				t.Fatalf("%d: what was handed in is %q, %d", l, room, numbers)
			}
			want := bytes.Clone(b)
			copy(room, strings.Repeat("#", len(room)))
			copy(c, strings.Repeat("#", len(c)))
			if !bytes.Equal(b, want) {
				t.Fatalf("%d: an answer shares memory", l)
			}
		}
		b := laid(l)
		one, _, _ := posting.Read(b, 0)
		two, _, _ := posting.Read(b, 0)
		if !bytes.Equal(b, laid(l)) {
			t.Fatalf("%d: what was handed in is changed", l)
		}
		for i := range two {
			two[i] = -9
		}
		for i := range b {
			b[i] = 0xff
		}
		if !slices.Equal(one, l) {
			t.Fatalf("%d: what was read shares memory: %d", l, one)
		}
	}
}
