package block_test

import (
	"bytes"
	"encoding/binary"
	"fmt"
	"hash/crc32"
	"math"
	"slices"
	"strings"
	"testing"

	"gauge/api"
	"gauge/block"
	"gauge/chunk"
	"gauge/index"
	"gauge/label"
	"gauge/matcher"
)

const (
	end    = api.MaxTime   // the last time
	top    = api.MaxVal    // the greatest value
	full   = api.MaxChunk  // the samples of a full piece
	most   = api.MaxSeries // of a block's series
	points = api.MaxPoints // of a block's samples
)

var (
	longName = strings.Repeat("n", api.MaxName) // as long as a name may be
	longWord = strings.Repeat("v", api.MaxWord) // as long as a value may be
)

// set tells labels of names and values, one behind the other.
func set(words ...string) []api.Label {
	var l []api.Label
	for i := 0; i < len(words); i += 2 {
		l = append(l, api.Label{Name: words[i], Value: words[i+1]})
	}
	return l
}

// samples tells samples of times and values, one behind the other.
func samples(numbers ...int) []api.Sample {
	var l []api.Sample
	for i := 0; i < len(numbers); i += 2 {
		l = append(l, api.Sample{T: numbers[i], V: numbers[i+1]})
	}
	return l
}

// of tells the series of a label a and samples.
func of(value string, l []api.Sample) api.Series {
	return api.Series{Labels: set("a", value), Samples: l}
}

// list tells series in one list.
func list(l ...api.Series) []api.Series {
	return l
}

// example is the series of the chapter's example.
func example() []api.Series {
	return list(of("x", samples(10, 5)))
}

// run tells n samples from first on, each so much behind the one ahead.
func run(first, step, n int) []api.Sample {
	l := make([]api.Sample, n)
	for i := range l {
		l[i] = api.Sample{T: first + i*step, V: i*i - 1000*i}
	}
	return l
}

// word tells a number in three digits, which rise as the numbers do.
func word(n int) string {
	return fmt.Sprintf("%03d", n)
}

// even tells n series of so many samples each.
func even(n, each int) []api.Series {
	l := make([]api.Series, n)
	for i := range l {
		l[i] = of(word(i), run(i, 15, each))
	}
	return l
}

// with tells series with something changed; those that are handed in stay.
func with(l []api.Series, change func(l []api.Series)) []api.Series {
	l = copied(l)
	change(l)
	return l
}

// copied tells series that share no memory with those that are handed in.
func copied(l []api.Series) []api.Series {
	var other []api.Series
	for _, s := range l {
		other = append(other, api.Series{Labels: slices.Clone(s.Labels), Samples: slices.Clone(s.Samples)})
	}
	return other
}

// same tells whether two lists have the same series.
func same(a, b []api.Series) bool {
	return slices.EqualFunc(a, b, func(x, y api.Series) bool {
		return slices.Equal(x.Labels, y.Labels) && slices.Equal(x.Samples, y.Samples)
	})
}

// brief tells something in few bytes, however long it is.
func brief(x any) string {
	return fmt.Sprintf("%.200s", fmt.Sprintf("%v", x))
}

// short tells series in few bytes, by their labels and how many samples they have.
func short(l []api.Series) string {
	s := fmt.Sprintf("%d series", len(l))
	for _, x := range l[:min(len(l), 4)] {
		s += fmt.Sprintf(" %.60q: %d %v", x.Labels, len(x.Samples), x.Samples[:min(len(x.Samples), 3)])
	}
	return s
}

// mixed tells numbers that look mixed, and are the same each time.
func mixed(seed int) func(n int) int {
	u := uint64(seed)*7919 + 88172645463325252
	return func(n int) int {
		u ^= u << 13
		u ^= u >> 7
		u ^= u << 17
		return int((u >> 8) % uint64(n))
	}
}

// drawn tells up to n series that may be a block, of up to so many samples each.
func drawn(next func(int) int, n, each int) []api.Series {
	values := []string{"1", "10", "2", "a", "\x00", "\xff", `"`, longWord}
	var l []api.Series
	for range n {
		var s api.Series
		for _, name := range []string{"A", "__name__", "a", "b", longName} {
			if next(3) > 0 {
				s.Labels = append(s.Labels, api.Label{Name: name, Value: values[next(len(values))]})
			}
		}
		t := next(1 << next(30))
		for range 1 + next(each) {
			s.Samples = append(s.Samples, api.Sample{T: t, V: next(1<<next(61)+1) * (1 - 2*next(2))})
			t += 1 + next(1<<next(24))
		}
		l = append(l, s)
	}
	order := func(x, y api.Series) int { return label.Compare(x.Labels, y.Labels) }
	slices.SortFunc(l, order)
	return slices.CompactFunc(l, func(x, y api.Series) bool { return order(x, y) == 0 })
}

// rights are series that may be a block, of many kinds.
func rights() [][]api.Series {
	ls := [][]api.Series{
		nil, {}, example(), list(api.Series{Samples: samples(0, 0)}), list(of("x", samples(0, 0)), of("y", samples(0, 0))),
		list(of("x", samples(0, top, end, -top))), list(of("x", samples(end, 0))), list(of("x", samples(0, -top, 1, top, 2, -top, end, top))),
		list(api.Series{Labels: set(longName, longWord), Samples: samples(7, 7)}), list(api.Series{Samples: samples(3, 1)}, of("x", samples(1, 3)), api.Series{Labels: set("a", "x", "b", "y"), Samples: samples(2, 2)}),
		list(of("x", samples(50, 1)), of("y", samples(10, 1, 20, 2)), of("z", samples(30, 1, 90, 2))),
		even(most, 1), even(most, points/most), even(1, points), list(of("x", run(0, 1, points-1)), of("y", run(9, 9, 1))), even(127, 3), even(128, 3), even(129, 125),
	}
	for _, n := range []int{1, 2, full - 1, full, full + 1, 2*full - 1, 2 * full, 2*full + 1, 128 * full, 128*full + 1} {
		ls = append(ls, even(1, n), list(of("x", run(5, 1000, n)), of("y", samples(1, 1))))
	}
	next := mixed(1)
	for i := range 60 {
		ls = append(ls, drawn(next, 1+i, 1+5*i))
	}
	return ls
}

// A shape is what stands in a block, right or not: the tests' own way of
// laying one down.
type shape struct {
	front  string
	index  []byte
	chunks [][][]byte
}

// shapeOf tells the shape of series, however many samples they have.
func shapeOf(l []api.Series) shape {
	x := shape{front: "GBK1"}
	var sets [][]api.Label
	for _, s := range l {
		sets = append(sets, s.Labels)
		var chunks [][]byte
		for piece := range slices.Chunk(s.Samples, 120) {
			chunks = append(chunks, chunkOf(piece))
		}
		x.chunks = append(x.chunks, chunks)
	}
	i, e := index.New(sets)
	if e != api.OK {
		panic(e)
	}
	x.index = i.Bytes()
	return x
}

// chunkOf tells the chunk of samples.
func chunkOf(l []api.Sample) []byte {
	c, e := chunk.Encode(l)
	if e != api.OK {
		panic(e)
	}
	return c
}

// counted tells bytes, behind how many they are.
func counted(b []byte) []byte {
	return append(binary.AppendUvarint(nil, uint64(len(b))), b...)
}

// sealed tells bytes with their sum behind them.
func sealed(b []byte) []byte {
	return binary.LittleEndian.AppendUint32(bytes.Clone(b), crc32.Checksum(b, crc32.MakeTable(crc32.Castagnoli)))
}

// open tells a shape's bytes without the sum.
func (x shape) open() []byte {
	b := append([]byte(x.front), counted(x.index)...)
	for _, chunks := range x.chunks {
		b = binary.AppendUvarint(b, uint64(len(chunks)))
		for _, c := range chunks {
			b = append(b, counted(c)...)
		}
	}
	return b
}

// laid tells the block of series.
func laid(l []api.Series) []byte {
	return sealed(shapeOf(l).open())
}

// made tells the block of right series.
func made(t *testing.T, l []api.Series) *block.Block {
	t.Helper()
	x, e := block.Open(laid(l))
	if e != api.OK || x == nil {
		t.Fatalf("%s: %d", short(l), e)
	}
	return x
}

// judged tells what Check should: the tests' own way.
func judged(l []api.Series) api.Errno {
	n := 0
	var sets [][]api.Label
	for _, s := range l {
		n += len(s.Samples)
		sets = append(sets, s.Labels)
	}
	if len(l) >= 257 || n >= 65537 {
		return api.ErrBig
	}
	if _, e := index.New(sets); e != api.OK {
		return e
	}
	for _, s := range l {
		if len(s.Samples) == 0 {
			return api.ErrArg
		}
		last := -1
		for _, p := range s.Samples {
			if p.T < 0 || p.T > 1<<40 || p.V > 1<<60 || p.V < -1<<60 {
				return api.ErrOver
			}
			if p.T <= last {
				return api.ErrOrder
			}
			last = p.T
		}
	}
	return api.OK
}

// P12.1

func TestWriteExample(t *testing.T) {
	b, e := block.Write(example())
	if want := "\x47\x42\x4b\x31\x09\x02\x01a\x01x\x01\x01\x00\x01\x01\x04\x03\x09\x41\x28"; e != api.OK || len(b) != len(want)+4 || string(b) != string(sealed([]byte(want))) {
		t.Errorf("%x %d", b, e)
	}
	b, e = block.Write(nil)
	if e != api.OK || string(b) != string(sealed([]byte("GBK1\x02\x00\x00"))) {
		t.Errorf("of none: %x %d", b, e)
	}
}

func TestCheckAndWrite(t *testing.T) {
	for _, l := range rights() {
		if e := block.Check(l); e != api.OK || judged(l) != api.OK {
			t.Fatalf("%s: %d %d", short(l), e, judged(l))
		}
		if b, e := block.Write(l); e != api.OK || !bytes.Equal(b, laid(l)) {
			t.Fatalf("%s: %d %x", short(l), e, b[:min(len(b), 99)])
		}
	}
}

// A wrong is series that may be no block, and why.
type wrong struct {
	l []api.Series
	e api.Errno
}

// wrongs are such series, with the orders of errors among them.
func wrongs() []wrong {
	x, none := of("x", samples(1, 1)), of("x", nil)
	long := list(of("x", run(10, 15, 3*full)))
	at := func(place int, s api.Sample) []api.Series {
		return with(long, func(l []api.Series) { l[0].Samples[place] = s })
	}
	l := []wrong{
		// How many series and samples there are is told ahead of all else.
		{even(most+1, 1), api.ErrBig}, {make([]api.Series, most+1), api.ErrBig}, {make([]api.Series, 1<<16), api.ErrBig}, {even(1, points+1), api.ErrBig}, {even(most, points/most+1), api.ErrBig}, {append(even(1, points), x), api.ErrBig}, {append(even(most-1, points/most), of("x", run(0, 1, points/most+1))), api.ErrBig},
		{list(of("x", make([]api.Sample, points+1))), api.ErrBig}, {list(x, x, of("", run(0, 1, points))), api.ErrBig}, {list(none, of("y", run(0, 1, points+1))), api.ErrBig}, {with(even(most+1, 1), func(l []api.Series) { l[3] = l[2] }), api.ErrBig}, {list(of("x", samples(-1, 0)), of("y", run(0, 1, points))), api.ErrBig},
		// Then all label sets.
		{list(x, x), api.ErrOrder}, {list(of("y", samples(1, 1)), x), api.ErrOrder}, {list(x, api.Series{Samples: samples(1, 1)}), api.ErrOrder}, {list(of("", samples(1, 1))), api.ErrArg}, {list(of(longWord+"v", samples(1, 1))), api.ErrBig}, {list(api.Series{Labels: set("1", "x"), Samples: samples(1, 1)}), api.ErrName}, {list(api.Series{Labels: set("b", "x", "a", "x"), Samples: samples(1, 1)}), api.ErrOrder},
		{list(api.Series{Labels: make([]api.Label, api.MaxLabels+1), Samples: samples(1, 1)}), api.ErrBig}, {list(none, none), api.ErrOrder}, {list(none, api.Series{Labels: set("1", "x")}), api.ErrName}, {list(of("a", samples(-1, 0)), x, x), api.ErrOrder}, {list(of("a", samples(2, 0, 1, 0)), of("", nil)), api.ErrArg}, {list(of("a", samples(2, 0, 1, 0)), of(longWord+"v", nil)), api.ErrBig}, {list(x, x, api.Series{Labels: set("1", "x")}), api.ErrOrder}, {list(of("", nil), x, x), api.ErrArg},
		// Then series by series.
		{list(none), api.ErrArg}, {list(of("x", []api.Sample{})), api.ErrArg}, {make([]api.Series, 1), api.ErrArg}, {list(x, of("y", nil)), api.ErrArg}, {list(of("a", nil), x), api.ErrArg}, {append(even(most-1, 1), of("x", nil)), api.ErrArg}, {list(none, of("y", samples(-1, 0))), api.ErrArg}, {list(of("x", samples(-1, 0)), of("y", nil)), api.ErrOver}, {list(of("x", samples(1, 0, 1, 0)), of("y", nil)), api.ErrOrder},
		{list(of("x", samples(1, 0, 1, 0)), of("y", samples(-1, 0))), api.ErrOrder}, {list(of("x", samples(-1, 0)), of("y", samples(1, 0, 1, 0))), api.ErrOver},
		// Then sample by sample.
		{list(of("x", samples(-1, 0))), api.ErrOver}, {list(of("x", samples(end+1, 0))), api.ErrOver}, {list(of("x", samples(0, top+1))), api.ErrOver}, {list(of("x", samples(0, -top-1))), api.ErrOver}, {list(of("x", samples(math.MinInt, 0))), api.ErrOver}, {list(of("x", samples(math.MaxInt, 0))), api.ErrOver}, {list(of("x", samples(0, math.MinInt))), api.ErrOver}, {list(of("x", samples(0, math.MaxInt))), api.ErrOver}, {list(of("x", samples(0, 0, end+1, 0))), api.ErrOver},
		{list(of("x", samples(5, 0, 5, 0))), api.ErrOrder}, {list(of("x", samples(5, 0, 4, 0))), api.ErrOrder}, {list(of("x", samples(0, 0, 0, 0))), api.ErrOrder}, {list(of("x", samples(end, 0, 0, 0))), api.ErrOrder}, {list(of("x", samples(5, 0, -1, 0))), api.ErrOver}, {list(of("x", samples(5, 0, 5, top+1))), api.ErrOver}, {list(of("x", samples(5, 0, 4, 0, -1, 0))), api.ErrOrder}, {list(of("x", samples(5, 0, -1, 0, 4, 0))), api.ErrOver}, {list(of("x", samples(5, 0, 6, 0, 5, 0))), api.ErrOrder},
		{append(even(most-1, 1), of("x", samples(1, 0, 0, 0))), api.ErrOrder},
	}
	// And where one piece ends and the next one begins as anywhere.
	for _, i := range []int{1, full - 2, full - 1, full, full + 1, 2*full - 1, 2 * full, 3*full - 1} {
		ahead := long[0].Samples[i-1].T
		l = append(l, wrong{at(i, api.Sample{T: ahead}), api.ErrOrder}, wrong{at(i, api.Sample{T: ahead - 1}), api.ErrOrder}, wrong{at(i, api.Sample{T: 0}), api.ErrOrder}, wrong{at(i, api.Sample{T: -1}), api.ErrOver}, wrong{at(i, api.Sample{T: end + 1}), api.ErrOver}, wrong{at(i, api.Sample{T: ahead, V: top + 1}), api.ErrOver})
		if i < 3*full-1 {
			over := func(l []api.Series) { l[0].Samples[3*full-1].V = top + 1 }
			l = append(l, wrong{with(at(i, api.Sample{T: ahead}), over), api.ErrOrder}, wrong{with(at(i, api.Sample{T: end}), over), api.ErrOrder})
		}
	}
	return l
}

func TestCheckWrong(t *testing.T) {
	for _, w := range wrongs() {
		if e := block.Check(w.l); e != w.e || judged(w.l) != w.e {
			t.Errorf("%s: %d, not %d (%d)", short(w.l), e, w.e, judged(w.l))
		}
		if b, e := block.Write(w.l); b != nil || e != w.e {
			t.Errorf("Write %s: %x %d, not %d", short(w.l), b, e, w.e)
		}
	}
}

// TestCheckMixed breaks series in up to three places.
func TestCheckMixed(t *testing.T) {
	next := mixed(2)
	met := map[api.Errno]int{}
	for range 6000 {
		l := drawn(next, 1+next(6), 1+next(300))
		for range next(4) {
			s := &l[next(len(l))]
			switch at := next(max(len(s.Samples), 1)); {
			case next(8) == 0:
				s.Labels = set("a", "x")
			case next(20) == 0:
				s.Labels = set([]string{"1", "a", "a"}[next(3)], []string{"", longWord + "v", "x"}[next(3)])
			case next(20) == 0:
				s.Samples = nil
			case len(s.Samples) == 0:
			case next(2) == 0:
				s.Samples[at].T = s.Samples[next(len(s.Samples))].T + next(3) - 1
			case next(2) == 0:
				s.Samples[at].T = []int{-1, 0, end, end + 1, math.MinInt, math.MaxInt}[next(6)]
			default:
				s.Samples[at].V = []int{-top, top, -top - 1, top + 1, math.MinInt, math.MaxInt}[next(6)]
			}
		}
		want := judged(l)
		met[want]++
		if e := block.Check(l); e != want {
			t.Fatalf("%s: %d, not %d", brief(l), e, want)
		}
		b, e := block.Write(l)
		if e != want || (b != nil) != (e == api.OK) {
			t.Fatalf("Write %s: %d, not %d", brief(l), e, want)
		}
		if want == api.OK && !bytes.Equal(b, laid(l)) {
			t.Fatalf("Write %s: %x", brief(l), b)
		}
	}
	for _, e := range []api.Errno{api.OK, api.ErrArg, api.ErrName, api.ErrOver, api.ErrOrder, api.ErrBig} {
		if met[e] < 10 {
			t.Errorf("only %d of error %d", met[e], e)
		}
	}
}

// P12.2

func TestOpenAndAll(t *testing.T) {
	for _, l := range rights() {
		x := made(t, l)
		if back := x.All(); !same(back, l) {
			t.Fatalf("%s: %s", short(l), short(back))
		}
	}
	var none *block.Block
	if l := none.All(); len(l) != 0 {
		t.Errorf("of no block: %s", short(l))
	}
}

// refused tells whether Open refuses bytes as it should.
func refused(b []byte) bool {
	x, e := block.Open(b)
	return x == nil && e == api.ErrCorrupt
}

// hold holds what Open tells of bytes against what Write does: whatever it
// takes is written as just these bytes. It tells whether they are taken.
func hold(t *testing.T, b []byte) bool {
	t.Helper()
	x, e := block.Open(b)
	if e != api.OK {
		if x != nil || e != api.ErrCorrupt {
			t.Fatalf("%x: %d", b, e)
		}
		return false
	}
	l := x.All()
	if judged(l) != api.OK || !bytes.Equal(laid(l), b) {
		t.Fatalf("%x is taken for %s", b, short(l))
	}
	if back, e := block.Write(l); e != api.OK || !bytes.Equal(back, b) {
		t.Fatalf("%x is written as %x %d", b, back, e)
	}
	return true
}

func TestOpenExample(t *testing.T) {
	for _, b := range [][]byte{nil, {}, []byte("GBK1"), sealed(nil), sealed([]byte("GBK1")), sealed([]byte("GBK1\x00")), make([]byte, 3), make([]byte, 4), make([]byte, 8), bytes.Repeat([]byte{0xff}, 99)} {
		if !refused(b) {
			t.Errorf("%x is taken", b)
		}
	}
}

// broken tells bytes of which each is a block's but for one thing, with a sum
// that is right.
func broken() map[string][]byte {
	l := list(of("x", run(7, 9, 2*full+3)), of("y", samples(1, 2)))
	all := map[string][]byte{}
	put := func(name string, l []api.Series, change func(x *shape)) {
		x := shapeOf(l)
		change(&x)
		all[name] = sealed(x.open())
	}
	put("another front", l, func(x *shape) { x.front = "GBK2" })
	put("a small front", l, func(x *shape) { x.front = "gbk1" })
	put("a short front", l, func(x *shape) { x.front = "GBK" })
	put("no front", l, func(x *shape) { x.front = "" })
	put("a long front", l, func(x *shape) { x.front = "GBK1\x00" })
	put("no index", l, func(x *shape) { x.index = nil })
	put("an index cut off", l, func(x *shape) { x.index = x.index[:len(x.index)-1] })
	put("an index and more", l, func(x *shape) { x.index = append(x.index, 0) })
	put("an index of fewer", l, func(x *shape) { x.index = shapeOf(l[:1]).index })
	put("an index of more", l, func(x *shape) { x.index = shapeOf(append(slices.Clone(l), of("z", samples(1, 2)))).index })
	put("an index of two that are one", l, func(x *shape) { x.index[len(x.index)-1] = 1 })
	put("an index that falls", l, func(x *shape) {
		x.index[len(x.index)-1], x.index[len(x.index)-4] = x.index[len(x.index)-4], x.index[len(x.index)-1]
	})
	put("a series less", l, func(x *shape) { x.chunks = x.chunks[:1] })
	put("a series more", l, func(x *shape) { x.chunks = append(x.chunks, x.chunks[1]) })
	put("a series without chunks", l, func(x *shape) { x.chunks[1] = nil })
	put("a first series without chunks", l, func(x *shape) { x.chunks[0] = nil })
	put("a further series without chunks", l, func(x *shape) { x.chunks = append(x.chunks, nil) })
	put("no series and a chunk", nil, func(x *shape) { x.chunks = [][][]byte{{chunkOf(samples(1, 1))}} })
	put("an empty chunk", l, func(x *shape) { x.chunks[1][0] = nil })
	put("an empty chunk behind", l, func(x *shape) { x.chunks[1] = append(x.chunks[1], nil) })
	put("a chunk cut off", l, func(x *shape) { x.chunks[0][0] = x.chunks[0][0][:100] })
	put("a chunk and more", l, func(x *shape) { x.chunks[1][0] = append(x.chunks[1][0], 0) })
	put("a chunk turned", l, func(x *shape) { x.chunks[1][0][0] ^= 0x80 })
	put("no chunk", l, func(x *shape) { x.chunks[1][0] = []byte("chunk") })
	put("a first piece too short", l, func(x *shape) { x.chunks[0][0] = chunkOf(l[0].Samples[:full-1]) })
	put("a second piece too short", l, func(x *shape) { x.chunks[0][1] = chunkOf(l[0].Samples[full : 2*full-1]) })
	put("a full piece behind a short one", l, func(x *shape) {
		x.chunks[0] = [][]byte{chunkOf(l[0].Samples[:3]), chunkOf(l[0].Samples[3 : full+3])}
	})
	put("two short pieces", l, func(x *shape) { x.chunks[1] = [][]byte{chunkOf(samples(1, 2)), chunkOf(samples(3, 4))} })
	put("a first piece cut off from behind and in front", l, func(x *shape) { x.chunks[0][0] = chunkOf(l[0].Samples[1:5]) })
	put("pieces turned round", l, func(x *shape) { x.chunks[0][0], x.chunks[0][1] = x.chunks[0][1], x.chunks[0][0] })
	put("a piece twice", l, func(x *shape) { x.chunks[0] = slices.Insert(x.chunks[0], 1, x.chunks[0][1]) })
	put("a last piece twice", l, func(x *shape) { x.chunks[0] = append(x.chunks[0], x.chunks[0][2]) })
	put("a time twice", l, func(x *shape) { x.chunks[0][1] = chunkOf(l[0].Samples[full-1 : 2*full-1]) })
	put("a last time twice", l, func(x *shape) { x.chunks[0][2] = chunkOf(l[0].Samples[2*full-1 : 2*full+1]) })
	put("a piece within the one ahead", l, func(x *shape) { x.chunks[0][2] = chunkOf(l[0].Samples[full+1 : full+2]) })
	put("too many samples", even(1, points+1), func(x *shape) {})
	put("too many samples in all", even(most, points/most+1), func(x *shape) {})
	put("one sample too many", append(even(most-1, points/most), of("x", run(0, 1, points/most+1))), func(x *shape) {})
	return all
}

func TestOpenBroken(t *testing.T) {
	for name, b := range broken() {
		if !refused(b) {
			t.Errorf("%s is taken", name)
		}
	}
}

// longer tells a number's digits with further ones of nought behind them, which
// no number has.
func longer(n, further int) []byte {
	b := binary.AppendUvarint(nil, uint64(n))
	for range further {
		b[len(b)-1] |= 0x80
		b = append(b, 0)
	}
	return b
}

// TestOpenNumbers lays each number of a block down as others.
func TestOpenNumbers(t *testing.T) {
	x := shapeOf(example())
	c := x.chunks[0][0]
	build := func(index, chunks, size []byte) []byte {
		return sealed(slices.Concat([]byte("GBK1"), index, x.index, chunks, size, c))
	}
	right := [][]byte{{9}, {1}, {4}}
	if !hold(t, build(right[0], right[1], right[2])) {
		t.Fatal("the example is refused")
	}
	greatest := binary.AppendUvarint(nil, math.MaxInt)
	for i, n := range []int{9, 1, 4} {
		for _, digits := range [][]byte{nil, longer(n, 1), longer(n, 2), longer(n, 7), longer(n, 8), longer(n, 9), {byte(n - 1)}, {byte(n + 1)}, {0}, {0x80}, longer(0, 1), {127}, {0xff, 0x7f}, greatest, append(greatest[:8:8], 0xff), append(greatest[:8:8], 0xff, 1), bytes.Repeat([]byte{0xff}, 12)} {
			numbers := slices.Clone(right)
			numbers[i] = digits
			if b := build(numbers[0], numbers[1], numbers[2]); !refused(b) {
				t.Errorf("%x is taken", b)
			}
		}
	}
}

// TestOpenCut cuts blocks off anywhere, and lays bytes behind them.
func TestOpenCut(t *testing.T) {
	for _, l := range [][]api.Series{nil, example(), list(of("x", run(7, 9, full+3)), of("y", samples(1, 2))), drawn(mixed(3), 3, 9)} {
		b := laid(l)
		for n := range b {
			if !refused(b[:n]) || !refused(b[n+1:]) {
				t.Fatalf("%s: %d of %d bytes are taken", short(l), n, len(b))
			}
			if n < len(b)-4 && !refused(sealed(b[:n])) {
				t.Fatalf("%s: %d of %d bytes and their sum are taken", short(l), n, len(b))
			}
		}
		for _, more := range [][]byte{{0}, {1}, make([]byte, 4), b, b[len(b)-4:]} {
			if !refused(append(bytes.Clone(b), more...)) || !refused(sealed(append(bytes.Clone(b[:len(b)-4]), more...))) {
				t.Fatalf("%s: with %x behind it it is taken", short(l), more)
			}
		}
		if other := sealed(b); !refused(other) {
			t.Fatalf("%s: with two sums it is taken", short(l))
		}
		turned := append(bytes.Clone(b[:len(b)-4]), b[len(b)-1], b[len(b)-2], b[len(b)-3], b[len(b)-4])
		if !refused(turned) {
			t.Fatalf("%s: with the sum's highest byte first it is taken", short(l))
		}
	}
}

// TestOpenEach puts each byte into each place, with a sum that is right.
func TestOpenEach(t *testing.T) {
	right := 0
	for _, l := range [][]api.Series{nil, example(), list(api.Series{Samples: samples(3, 1, 4, 1)}, of("x", samples(1, 3)), api.Series{Labels: set("a", "x", "b", "y"), Samples: samples(2, 2)})} {
		b := shapeOf(l).open()
		for i := range b {
			for u := range 256 {
				c := bytes.Clone(b)
				c[i] = byte(u)
				if hold(t, sealed(c)) {
					right++
				}
			}
			hold(t, sealed(slices.Delete(bytes.Clone(b), i, i+1)))
			for _, u := range []byte{0, 1, 2, 0x80, 'a'} {
				hold(t, sealed(slices.Insert(bytes.Clone(b), i, u)))
			}
		}
	}
	if right < 200 {
		t.Errorf("only %d blocks", right)
	}
}

// TestOpenMixed turns a few bits of blocks, with a sum that is right.
func TestOpenMixed(t *testing.T) {
	next := mixed(4)
	right := 0
	for range 6000 {
		b := shapeOf(drawn(next, 1+next(4), 1+next(130))).open()
		for range 1 + next(3) {
			b[next(len(b))] ^= 1 << next(8)
		}
		if hold(t, sealed(b)) {
			right++
		}
	}
	if right < 50 {
		t.Errorf("only %d blocks", right)
	}
}

// P12.3

// ask tells a matcher.
func ask(kind int, name, value string) api.Matcher {
	return api.Matcher{Kind: kind, Name: name, Value: value}
}

// asks tells matchers in one list.
func asks(ms ...api.Matcher) []api.Matcher {
	return ms
}

// chosen tells the samples from low to high: the tests' own way.
func chosen(l []api.Sample, low, high int) []api.Sample {
	var some []api.Sample
	for _, s := range l {
		if s.T >= low && s.T <= high {
			some = append(some, s)
		}
	}
	return some
}

// edges are times about where pieces of a series begin and end, and far out.
func edges(l []api.Sample) []int {
	ts := []int{math.MinInt, -1, 0, 1, end - 1, end, end + 1, math.MaxInt}
	for i := 0; i < len(l); i += full {
		last := l[min(i+full, len(l))-1].T
		ts = append(ts, l[i].T-1, l[i].T, l[i].T+1, last-1, last, last+1)
	}
	slices.Sort(ts)
	return slices.Compact(ts)
}

func TestExample(t *testing.T) {
	x := made(t, example())
	if l, e := x.Select(0, 10, 10); e != api.OK || !slices.Equal(l, samples(10, 5)) {
		t.Error(l, e)
	}
	if l, e := x.Select(0, 11, 9); e != api.OK || len(l) != 0 {
		t.Error(l, e)
	}
}

func TestLenCountBounds(t *testing.T) {
	for _, l := range rights() {
		x := made(t, l)
		count, low, high := 0, 0, 0
		for i, s := range l {
			count += len(s.Samples)
			for j, p := range s.Samples {
				if i+j == 0 || p.T < low {
					low = p.T
				}
				high = max(high, p.T)
			}
		}
		if n, c := x.Len(), x.Count(); n != len(l) || c != count {
			t.Fatalf("%s: %d series, %d samples, not %d", short(l), n, c, count)
		}
		if a, b := x.Bounds(); a != low || b != high {
			t.Fatalf("%s: from %d to %d, not from %d to %d", short(l), a, b, low, high)
		}
	}
}

// TestLabelsAndFind holds what a block tells against its index, and against
// each series' own labels.
func TestLabelsAndFind(t *testing.T) {
	var questions [][]api.Matcher
	for kind := -1; kind < 6; kind++ {
		for _, name := range []string{"a", "b", "__name__", "", "1"} {
			for _, value := range []string{"", "x", "1", "10|2", ".+", "(", longWord + "v"} {
				questions = append(questions, asks(ask(kind, name, value)), asks(ask(api.Ne, "a", ""), ask(kind, name, value)))
			}
		}
	}
	questions = append(questions, nil, asks(), slices.Repeat(asks(ask(api.Eq, "a", "x")), api.MaxLabels), slices.Repeat(asks(ask(api.Eq, "a", "x")), api.MaxLabels+1))
	next := mixed(5)
	for _, l := range [][]api.Series{nil, example(), list(api.Series{Samples: samples(3, 1)}, of("x", samples(1, 3)), api.Series{Labels: set("a", "x", "b", "y"), Samples: samples(2, 2)}), drawn(next, 9, 3), drawn(next, 200, 3), even(most, 1)} {
		x := made(t, l)
		for id, s := range l {
			if labels, e := x.Labels(id); e != api.OK || !slices.Equal(labels, s.Labels) {
				t.Fatalf("%s: %d is %q %d", short(l), id, labels, e)
			}
		}
		for _, ms := range questions {
			var want []int
			e := matcher.CheckAll(ms)
			for id, s := range l {
				if e == api.OK && matcher.All(ms, s.Labels) {
					want = append(want, id)
				}
			}
			if ids, f := x.Find(ms); f != e || !slices.Equal(ids, want) {
				t.Fatalf("%s: %s: %d %d, not %d %d", short(l), brief(ms), ids, f, want, e)
			}
		}
	}
}

func TestNoSuchId(t *testing.T) {
	for _, l := range [][]api.Series{nil, example(), even(3, 200), even(most, 1)} {
		x := made(t, l)
		for _, id := range []int{-1, len(l), len(l) + 1, most, math.MinInt, math.MaxInt, -1 << 32, 1 << 32} {
			if labels, e := x.Labels(id); labels != nil || e != api.ErrNone {
				t.Errorf("%d of %s: %q %d", id, short(l), labels, e)
			}
			for _, ts := range [][]int{{0, end}, {5, 4}, {-1, -1}} {
				if some, e := x.Select(id, ts[0], ts[1]); some != nil || e != api.ErrNone {
					t.Errorf("%d of %s: %v %d", id, short(l), some, e)
				}
			}
		}
	}
}

func TestNoBlock(t *testing.T) {
	var x *block.Block
	if n, c := x.Len(), x.Count(); n != 0 || c != 0 {
		t.Error(n, c)
	}
	if low, high := x.Bounds(); low != 0 || high != 0 {
		t.Error(low, high)
	}
	for _, id := range []int{-1, 0, 1, math.MaxInt} {
		if l, e := x.Labels(id); l != nil || e != api.ErrNil {
			t.Error(l, e)
		}
		if l, e := x.Select(id, 0, end); l != nil || e != api.ErrNil {
			t.Error(l, e)
		}
	}
	for _, ms := range [][]api.Matcher{nil, asks(ask(api.Eq, "a", "x")), asks(ask(9, "", ""))} {
		if ids, e := x.Find(ms); ids != nil || e != api.ErrNil {
			t.Error(ids, e)
		}
	}
}

func TestSelect(t *testing.T) {
	next := mixed(6)
	for _, l := range [][]api.Series{example(), list(of("x", samples(0, top, end, -top))), even(1, full), even(2, full+1), even(3, 3*full), list(of("x", run(500, 1, 2*full+7)), of("y", run(0, 1000, 5*full))), drawn(next, 8, 500), drawn(next, 40, 130)} {
		x := made(t, l)
		for id, s := range l {
			ts := edges(s.Samples)
			for range 20 {
				ts = append(ts, s.Samples[next(len(s.Samples))].T+next(3)-1)
			}
			for _, low := range ts {
				for _, high := range ts {
					some, e := x.Select(id, low, high)
					if want := chosen(s.Samples, low, high); e != api.OK || !slices.Equal(some, want) {
						t.Fatalf("%s: %d from %d to %d: %d %d, not %d", short(l), id, low, high, len(some), e, len(want))
					}
				}
			}
		}
	}
}

// P12.4

func TestThereAndBack(t *testing.T) {
	for _, l := range rights() {
		b, e := block.Write(l)
		if e != api.OK {
			t.Fatalf("%s: %d", short(l), e)
		}
		x, e := block.Open(b)
		if e != api.OK {
			t.Fatalf("%s: %d", short(l), e)
		}
		if !same(x.All(), l) || !hold(t, b) {
			t.Fatalf("%s: %s", short(l), short(x.All()))
		}
	}
}

// P12.5

// turnedAll holds Open to refusing bytes of which a row of so many bits is
// turned, wherever it stands from one place to another: all of them, the first
// and the last one alone, and these with some between.
func turnedAll(t *testing.T, b []byte, from, to int, lengths []int, next func(int) int) {
	t.Helper()
	for at := from; at < to; at++ {
		for _, n := range lengths {
			if at+n > to {
				continue
			}
			for _, pattern := range []uint64{math.MaxUint64, uint64(next(1<<32)) | 1<<(n-1) | 1, 1<<(n-1) | 1} {
				c := bytes.Clone(b)
				for i := range n {
					c[(at+i)/8] ^= byte(pattern>>i&1) << ((at + i) % 8)
				}
				if !refused(c) {
					t.Fatalf("%d bits from %d on of %x are turned, and it is taken", n, at, b[:min(len(b), 99)])
				}
			}
		}
	}
}

func TestTurned(t *testing.T) {
	next := mixed(7)
	lengths := make([]int, 32)
	for i := range lengths {
		lengths[i] = i + 1
	}
	for _, l := range [][]api.Series{nil, example(), list(of("x", samples(1, 2)), of("y", samples(1, 2, 3, 4))), list(of("x", run(0, 1, 9)))} {
		b := laid(l)
		turnedAll(t, b, 8*4, 8*len(b), lengths, next)
	}
	large := laid(even(5, 300))
	for range 20 {
		at := 8*4 + next(8*len(large)-8*4-32)
		turnedAll(t, large, at, at+32, []int{1, 2, 7, 8, 9, 16, 31, 32}, next)
	}
}

func TestTurnedFront(t *testing.T) {
	for _, l := range [][]api.Series{nil, example()} {
		b := laid(l)
		turnedAll(t, b, 0, 8*4, []int{1, 2, 8, 16, 32}, mixed(8))
	}
}

// P12.6

func TestParts(t *testing.T) {
	next := mixed(9)
	for _, l := range [][]api.Series{example(), even(2, full+1), list(of("x", run(500, 1, 2*full+7)), of("y", run(0, 1000, 5*full))), drawn(next, 8, 500)} {
		x := made(t, l)
		for id, s := range l {
			ts := edges(s.Samples)
			for range 60 {
				cut := []int{ts[next(len(ts))], ts[next(len(ts))], ts[next(len(ts))]}
				if next(2) == 0 {
					cut[1] = s.Samples[next(len(s.Samples))].T
				}
				slices.Sort(cut)
				if cut[1] == math.MaxInt {
					continue
				}
				whole, e := x.Select(id, cut[0], cut[2])
				first, e1 := x.Select(id, cut[0], cut[1])
				second, e2 := x.Select(id, cut[1]+1, cut[2])
				if e != api.OK || e1 != api.OK || e2 != api.OK || !slices.Equal(whole, slices.Concat(first, second)) {
					t.Fatalf("%s: %d by %d: %d and %d, not %d", short(l), id, cut, len(first), len(second), len(whole))
				}
			}
			var parts []api.Sample
			for _, p := range s.Samples {
				one, _ := x.Select(id, p.T, p.T)
				parts = append(parts, one...)
			}
			if !slices.Equal(parts, s.Samples) {
				t.Fatalf("%s: %d, time by time: %d samples", short(l), id, len(parts))
			}
		}
	}
}

// The rules that hold everywhere: what is handed in is not changed and not
// kept, and an answer is new memory.

// spoil puts other things into a list, and into the room behind it.
func spoil[E any](l []E, other E) {
	l = l[:cap(l)]
	for i := range l {
		l[i] = other
	}
}

// roomy tells series in lists with something behind their ends.
func roomy(l []api.Series) []api.Series {
	l = copied(l)
	for i, s := range l {
		l[i].Labels = append(s.Labels, api.Label{Name: "behind", Value: "it"})[:len(s.Labels)]
		l[i].Samples = append(s.Samples, api.Sample{T: 77, V: 77})[:len(s.Samples)]
	}
	return append(l, of("behind", samples(7, 7)))[:len(l)]
}

// untouched tells whether such series are what they were.
func untouched(l, was []api.Series) bool {
	for i, s := range l {
		n, m := len(s.Labels), len(s.Samples)
		if s.Labels[:n+1][n].Name != "behind" || s.Samples[:m+1][m].T != 77 || len(was[i].Samples) != m {
			return false
		}
	}
	return same(l, was) && l[:len(l)+1][len(l)].Labels[0].Value == "behind"
}

func TestWriteKeepsNothing(t *testing.T) {
	for _, was := range [][]api.Series{example(), even(3, full+5)} {
		l := roomy(was)
		if block.Check(l) != api.OK || !untouched(l, was) {
			t.Fatal("Check changes what is handed in")
		}
		b, e := block.Write(l)
		if e != api.OK || !untouched(l, was) {
			t.Fatal("Write changes what is handed in")
		}
		other, _ := block.Write(l)
		for i := range l {
			spoil(l[i].Labels, api.Label{Name: "other", Value: "word"})
			spoil(l[i].Samples, api.Sample{T: 1, V: 1})
		}
		spoil(other, '#')
		if !bytes.Equal(b, laid(was)) {
			t.Errorf("%x", b)
		}
	}
}

func TestOpenKeepsNothing(t *testing.T) {
	for _, l := range [][]api.Series{nil, example(), even(3, full+5)} {
		was := append(laid(l), "behind"...)
		b := bytes.Clone(was)
		x, e := block.Open(b[:len(b)-6])
		if e != api.OK || !bytes.Equal(b, was) {
			t.Fatalf("%s: %d, or what is handed in is changed", short(l), e)
		}
		spoil(b, '#')
		if !same(x.All(), l) {
			t.Errorf("%s: what was handed in is kept", short(l))
		}
	}
}

func TestFindKeepsNothing(t *testing.T) {
	x := made(t, example())
	ms := asks(ask(api.Eq, "a", "x"), ask(api.Ne, "b", "y"), ask(api.Eq, "behind", "it"))
	back := slices.Clone(ms)
	if l, e := x.Find(ms[:2]); !slices.Equal(l, []int{0}) || e != api.OK || !slices.Equal(ms, back) {
		t.Errorf("%d %d, and what was handed in is %s", l, e, brief(ms))
	}
}

func TestAnswersAreNew(t *testing.T) {
	for _, l := range [][]api.Series{example(), even(3, 2*full+5)} {
		x := made(t, l)
		all, again := x.All(), x.All()
		labels, _ := x.Labels(0)
		some, _ := x.Select(0, 0, end)
		ids, _ := x.Find(asks(ask(api.Ne, "a", "")))
		for i := range again {
			spoil(again[i].Labels, api.Label{Name: "other", Value: "word"})
			spoil(again[i].Samples, api.Sample{T: 1, V: 1})
		}
		spoil(again, api.Series{})
		for id := range l {
			other, _ := x.Labels(id)
			spoil(other, api.Label{Name: "other", Value: "word"})
			for _, high := range []int{0, 15 * full, end} {
				other, _ := x.Select(id, 0, high)
				spoil(other, api.Sample{T: 1, V: 1})
			}
		}
		other, _ := x.Find(asks(ask(api.Ne, "a", "")))
		spoil(other, -9)
		if !same(x.All(), l) {
			t.Fatalf("%s: an answer shares memory with the block", short(l))
		}
		if !same(all, l) || !slices.Equal(labels, l[0].Labels) || !slices.Equal(some, l[0].Samples) || len(ids) != len(l) || ids[0] != 0 {
			t.Fatalf("%s: an answer shares memory with another one", short(l))
		}
	}
}
